package journal_test

import (
	"bytes"
	"encoding/binary"
	"hash/crc32"
	"math"
	"math/rand"
	"regexp"
	"slices"
	"strings"
	"testing"

	"fasti/api"
	"fasti/disk"
	"fasti/journal"
)

const (
	size  = 128
	most  = 4096 // sectors of a disk
	piece = 112  // bytes of a record in one sector

	whole  = 3 // byte 10 of a sector in which a record begins and ends
	first  = 1
	middle = 0
	last   = 2
)

// noise returns n bytes that follow from seed, none of which is 0.
func noise(n, seed int) []byte {
	b := make([]byte, n)
	for i := range b {
		b[i] = byte(1 + (31*seed+7*i+seed/8+i/100)%255)
	}
	return b
}

// sector returns a sector as the document's table describes it.
func sector(k int, generation uint32, marks byte, data []byte) []byte {
	s := make([]byte, size)
	binary.BigEndian.PutUint32(s, generation)
	binary.BigEndian.PutUint16(s[8:], uint16(k))
	s[10], s[11] = marks, byte(len(data))
	copy(s[12:124], data)
	binary.BigEndian.PutUint32(s[124:], generation)
	return sealed(s)
}

// sealed returns the sector with the checksum that its other bytes need.
func sealed(s []byte) []byte {
	binary.BigEndian.PutUint32(s[4:], crc32.ChecksumIEEE(s[8:124]))
	return s
}

// laid returns the sectors of records of one generation, from the number k on.
func laid(k int, generation uint32, l ...[]byte) (sectors [][]byte) {
	for _, b := range l {
		marks := byte(first)
		for len(b) > piece {
			sectors = append(sectors, sector(k+len(sectors), generation, marks, b[:piece]))
			b, marks = b[piece:], middle
		}
		sectors = append(sectors, sector(k+len(sectors), generation, marks|last, b))
	}
	return sectors
}

// holding returns a disk with n sectors, of which the first ones are given and the others are zero.
func holding(n int, sectors ...[]byte) api.Disk {
	d := api.Disk{Sectors: slices.Clone(sectors), Left: -1}
	for len(d.Sectors) < n {
		d.Sectors = append(d.Sectors, make([]byte, size))
	}
	return d
}

// copied returns a disk that shares no memory with d.
func copied(d api.Disk) api.Disk {
	d.Sectors = copies(d.Sectors)
	d.Pending = slices.Clone(d.Pending)
	for i, w := range d.Pending {
		d.Pending[i].Data = slices.Clone(w.Data)
	}
	return d
}

func copies(l [][]byte) [][]byte {
	l = slices.Clone(l)
	for i, b := range l {
		l[i] = slices.Clone(b)
	}
	return l
}

func list(l ...string) (records [][]byte) {
	for _, s := range l {
		records = append(records, []byte(s))
	}
	return records
}

// sizes returns a record of each of these sizes.
func sizes(l ...int) (records [][]byte) {
	for i, n := range l {
		records = append(records, noise(n, 100*n+i))
	}
	return records
}

func sameDisk(a, b api.Disk) bool {
	return a.Left == b.Left && a.Stopped == b.Stopped && slices.EqualFunc(a.Sectors, b.Sectors, bytes.Equal) &&
		slices.EqualFunc(a.Pending, b.Pending, func(v, w api.Write) bool { return v.At == w.At && bytes.Equal(v.Data, w.Data) })
}

func sameJournal(a, b api.Journal) bool {
	return a.Many == b.Many && a.Synced == b.Synced && slices.EqualFunc(a.Records, b.Records, bytes.Equal)
}

// isJournal checks both results of a function that returns a journal.
func isJournal(t *testing.T, what string, j api.Journal, e api.Errno, want api.Journal, err api.Errno) {
	t.Helper()
	if e != err || !sameJournal(j, want) {
		t.Errorf("%s: error %d instead of %d; %d of %d records, %d of %d synced, %d of %d sectors", what, e, err,
			len(j.Records), len(want.Records), j.Synced, want.Synced, j.Many, want.Many)
	}
}

// opens checks which records are on a disk.
func opens(t *testing.T, what string, d api.Disk, want ...[]byte) {
	t.Helper()
	j, e := journal.Open(d)
	isJournal(t, what, j, e, api.Journal{Records: want, Synced: len(want), Many: len(d.Sectors)}, api.OK)
}

// The checksum of these tests is that of the document.
func TestChecksum(t *testing.T) {
	if n := crc32.ChecksumIEEE([]byte("123456789")); n != 3421780262 {
		t.Error(n)
	}
}

// P5.1
func TestOpenNew(t *testing.T) {
	for _, n := range []int{1, 2, 100, most} {
		d, e := disk.New(n)
		if e != api.OK {
			t.Fatal(e)
		}
		opens(t, "a new disk", d)
	}
}

// P5.1: records of all sizes that a disk can hold, up to its last sector.
func TestOpenRecords(t *testing.T) {
	full := make([][]byte, most)
	for i := range full {
		full[i] = noise(i%(piece+1), i)
	}
	for what, l := range map[string][][]byte{
		"no bytes":            sizes(0),
		"one byte":            sizes(1),
		"a full sector":       sizes(piece),
		"a byte more":         sizes(piece + 1),
		"two full sectors":    sizes(2 * piece),
		"a byte more than 2":  sizes(2*piece + 1),
		"many sectors":        sizes(20*piece - 5),
		"the whole disk":      sizes(most * piece),
		"the last sector":     sizes((most-1)*piece, 0),
		"all sectors":         full,
		"several":             sizes(0, 0, 112, 113, 224, 1, 225, 0, 336),
		"zero bytes":          {make([]byte, 3), make([]byte, piece), make([]byte, 200), nil},
		"what looks like one": {sector(0, 1, whole, noise(9, 1))[:piece], sector(1, 9, whole, noise(9, 1))},
	} {
		sectors := laid(0, 7, l...)
		opens(t, what+", no more sectors", holding(0, sectors...), l...)
		if len(sectors) < most {
			opens(t, what+", more sectors", holding(most, sectors...), l...)
		}
	}
	for _, n := range []int{0, piece + 1} {
		for _, generation := range []uint32{1, 255, 256, 1 << 31, math.MaxUint32} {
			opens(t, "generation", holding(4, laid(0, generation, sizes(n, 3)...)...), sizes(n, 3)...)
		}
	}
}

// P5.1: what the records on a disk are does not depend on what it has still to perform.
func TestOpenLeft(t *testing.T) {
	for _, left := range []int{-1, 0, 1, 65536} {
		d := holding(4, laid(0, 1, sizes(9, 200)...)...)
		d.Left = left
		opens(t, "left", d, sizes(9, 200)...)
	}
}

// wrong lists disks that are not valid.
func wrong() map[string]api.Disk {
	good := holding(3)
	left, pending := good, good
	left.Left = -2
	pending.Pending = []api.Write{{At: 3, Data: noise(size, 1)}}
	return map[string]api.Disk{
		"the zero disk":    {},
		"no sectors":       {Left: -1},
		"too many sectors": holding(most + 1),
		"a short sector":   holding(3, noise(size-1, 1)),
		"a long sector":    holding(3, laid(0, 1, nil)[0], noise(size+1, 1)),
		"an empty sector":  holding(3, nil),
		"less than all":    left,
		"a wrong write":    pending,
	}
}

// P5.1: each error, and which of several is named.
func TestOpenErrors(t *testing.T) {
	for what, d := range wrong() {
		for _, stopped := range []bool{false, true} {
			d.Stopped = stopped
			j, e := journal.Open(d)
			isJournal(t, what, j, e, api.Journal{}, api.ErrDisk)
		}
	}
	d := holding(3, laid(0, 1, sizes(9)...)...)
	d.Stopped, d.Left = true, 0
	j, e := journal.Open(d)
	isJournal(t, "stopped", j, e, api.Journal{}, api.ErrDisk)
	d.Pending = []api.Write{{At: 2, Data: noise(size, 1)}}
	j, e = journal.Open(d)
	isJournal(t, "stopped and pending", j, e, api.Journal{}, api.ErrDisk)
	d.Stopped = false
	j, e = journal.Open(d)
	isJournal(t, "pending", j, e, api.Journal{}, api.ErrArg)
}

// spoilers lists what makes any good sector one that is not good, though its checksum is right.
func spoilers() map[string]func(s []byte) {
	l := map[string]func(s []byte){
		"generation 0":   func(s []byte) { copy(s, make([]byte, 4)); copy(s[124:], make([]byte, 4)) },
		"number before":  func(s []byte) { s[9]-- },
		"number after":   func(s []byte) { s[9]++ },
		"number and 256": func(s []byte) { s[8]++ },
		"marks 4":        func(s []byte) { s[10] += 4 },
		"marks 128":      func(s []byte) { s[10] += 128 },
		"113 bytes":      func(s []byte) { s[11] = 113 },
		"255 bytes":      func(s []byte) { s[11] = 255 },
		"all bytes zero": func(s []byte) { clear(s) },
		"all bytes 255":  func(s []byte) { copy(s, bytes.Repeat([]byte{255}, size)) },
	}
	for i := range 4 {
		l["the generation before "+string(rune('0'+i))] = func(s []byte) { s[i] ^= 1 }
		l["the generation behind "+string(rune('0'+i))] = func(s []byte) { s[124+i] ^= 128 }
	}
	return l
}

// P5.1: a sector that is not good ends the journal before the record to which it would belong.
func TestOpenSpoiled(t *testing.T) {
	records := sizes(0, 200, 112, 336, 5, 113)
	starts := []int{0, 1, 3, 4, 7, 8, 10} // of the records, and where they end
	sectors := laid(0, 0x01020304, records...)
	for k := range starts[len(records)] {
		whose, _ := slices.BinarySearch(starts, k+1)
		for what, spoil := range spoilers() {
			d := copied(holding(11, sectors...))
			spoil(d.Sectors[k])
			sealed(d.Sectors[k])
			opens(t, what, d, records[:whose-1]...)
		}
		for i := 4; i < 8; i++ {
			d := copied(holding(11, sectors...))
			d.Sectors[k][i] ^= 16
			opens(t, "checksum", d, records[:whose-1]...)
		}
	}
}

// P5.1: how many bytes of a record lie in a sector, and what lies behind them.
func TestOpenCounts(t *testing.T) {
	before := laid(0, 3, sizes(piece+1)...)[:1]
	for n := range piece + 1 {
		b := noise(n, n)
		opens(t, "whole", holding(2, sector(0, 3, whole, b)), b)
		after := func(marks byte) api.Disk {
			return holding(4, before[0], sector(1, 3, marks, b), sector(2, 3, last, noise(9, 1)))
		}
		start := sizes(piece + 1)[0][:piece]
		switch n {
		case 0:
			opens(t, "a last piece without bytes", after(last))
			opens(t, "a piece without bytes", after(middle))
			opens(t, "a first piece without bytes", holding(3, sector(0, 3, first, b), sector(1, 3, last, noise(9, 1))))
		case piece:
			opens(t, "full pieces", after(last), slices.Concat(start, b))
			opens(t, "three pieces", after(middle), slices.Concat(start, b, noise(9, 1)))
			opens(t, "a full first piece", holding(3, sector(0, 3, first, b), sector(1, 3, last, noise(9, 1))), slices.Concat(b, noise(9, 1)))
		default:
			opens(t, "a last piece", after(last), slices.Concat(start, b))
			opens(t, "a piece that is not full", after(middle))
			opens(t, "a first piece that is not full", holding(3, sector(0, 3, first, b), sector(1, 3, last, noise(9, 1))))
		}
		for at := 12 + n; at < 124; at++ {
			s := sector(0, 3, whole, b)
			s[at] = 1
			opens(t, "a byte behind the record", holding(2, sealed(s)))
		}
	}
}

// P5.1: the number of a sector has two bytes.
func TestOpenNumbers(t *testing.T) {
	l := make([][]byte, most)
	for i := range l {
		l[i] = noise(3, i)
	}
	for _, k := range []int{1, 255, 256, 257, 511, 512, most - 1} {
		for _, number := range []int{k - 1, k + 1, k ^ 256, k ^ 1<<8 ^ 1, k & 255, int(uint16(k<<8 | k>>8)), k | 1<<12} {
			want := l[:k]
			if number == k {
				want = l
			}
			d := holding(0, laid(0, 1, l...)...)
			d.Sectors[k] = sector(number, 1, whole, l[k])
			opens(t, "number", d, want...)
		}
	}
}

// P5.1: records follow each other if their generations do not decrease, and all of a record has one generation.
func TestOpenGenerations(t *testing.T) {
	one, two := sizes(7)[0], sizes(113)[0]
	for _, g := range []uint32{1, 2, 256, 1 << 31, math.MaxUint32} {
		for _, h := range []uint32{1, 2, 256, 1 << 31, math.MaxUint32} {
			want := [][]byte{one, two}
			if h < g {
				want = want[:1]
			}
			opens(t, "two records", holding(4, slices.Concat(laid(0, g, one), laid(1, h, two))...), want...)
			want = [][]byte{two}
			if h != g {
				want = nil
			}
			opens(t, "one record", holding(4, laid(0, g, two)[0], laid(0, h, two)[1]), want...)
		}
	}
	opens(t, "increasing", holding(4, slices.Concat(laid(0, 1, one), laid(1, 1, one), laid(2, 9, one), laid(3, 9, nil))...), one, one, one, nil)
	opens(t, "less than the one before", holding(4, slices.Concat(laid(0, 5, one), laid(1, 9, one), laid(2, 6, one), laid(3, 9, one))...), one, one)
}

// words calls f with all words of a length.
func words(alphabet string, length int, f func(word string)) {
	if length == 0 {
		f("")
		return
	}
	words(alphabet, length-1, func(word string) {
		for _, c := range alphabet {
			f(word + string(c))
		}
	})
}

// lettered returns the sector for a letter: S is the whole of a record, B, M and E are its beginning, a middle and its end,
// all of the generation 1; small letters are those of the generation 2. x is a sector of another number, and . a zero sector.
func lettered(k int, letter byte) []byte {
	marks := map[byte]byte{'s': whole, 'b': first, 'm': middle, 'e': last}
	small := letter | 32
	generation := uint32(1)
	if letter == small {
		generation = 2
	}
	switch small {
	case 's', 'e':
		return sector(k, generation, marks[small], noise(1+k%piece, k))
	case 'b', 'm':
		return sector(k, generation, marks[small], noise(piece, k))
	case 'x':
		return sector(k+1, generation, whole, noise(1+k%piece, k))
	}
	return make([]byte, size)
}

var (
	readable = regexp.MustCompile(`^(S|BM*E)*(s|bm*e)*`)
	single   = regexp.MustCompile(`(?i)s|bm*e`)
)

// asRead checks Open by two regular expressions.
func asRead(t *testing.T, word string) {
	t.Helper()
	if t.Failed() {
		return
	}
	d := holding(0)
	for k := range len(word) {
		d.Sectors = append(d.Sectors, lettered(k, word[k]))
	}
	var want [][]byte
	for _, at := range single.FindAllStringIndex(readable.FindString(word), -1) {
		var b []byte
		for k := at[0]; k < at[1]; k++ {
			b = append(b, d.Sectors[k][12:12+int(d.Sectors[k][11])]...)
		}
		want = append(want, b)
	}
	opens(t, word, d, want...)
}

// P5.1: all short sequences of sectors, and long ones by chance.
func TestOpenWords(t *testing.T) {
	for n := 1; n <= 4; n++ {
		words("SBMEsbmex.", n, func(word string) { asRead(t, word) })
	}
	r := rand.New(rand.NewSource(5))
	parts := []string{"S", "BE", "BME", "BMMME", "BM", "E", "s", "be", "bme", "bmmme", "bm", "e", "x", ".", "Be", "bE", "BmE"}
	for range 5000 {
		word := ""
		for range 2 + r.Intn(9) {
			word += parts[min(r.Intn(len(parts)), r.Intn(len(parts)))]
		}
		asRead(t, word)
	}
	asRead(t, strings.Repeat("S", 1000)+"B"+strings.Repeat("M", 1500)+"E"+strings.Repeat("be", 700))
}

// P5.2: what is examined by Check, and how many bytes are left.
func TestCheckRoom(t *testing.T) {
	many := func(n int) [][]byte { return make([][]byte, n) }
	for what, x := range map[string]struct {
		j    api.Journal
		want api.Errno
		room int
	}{
		"the zero journal":            {api.Journal{}, api.ErrArg, 0},
		"one sector":                  {api.Journal{Many: 1}, api.OK, 112},
		"no records, but not nil":     {api.Journal{Many: 1, Records: [][]byte{}}, api.OK, 112},
		"all sectors":                 {api.Journal{Many: most}, api.OK, 112 * most},
		"too many sectors":            {api.Journal{Many: most + 1}, api.ErrArg, 0},
		"the most int":                {api.Journal{Many: math.MaxInt}, api.ErrArg, 0},
		"less than no sectors":        {api.Journal{Many: -1}, api.ErrArg, 0},
		"the least int":               {api.Journal{Many: math.MinInt}, api.ErrArg, 0},
		"2^32 and one":                {api.Journal{Many: 1<<32 + 1}, api.ErrArg, 0},
		"the least int with records":  {api.Journal{Many: math.MinInt, Records: many(9)}, api.ErrArg, 0},
		"none synced":                 {api.Journal{Many: 9, Records: many(2)}, api.OK, 112 * 7},
		"one synced":                  {api.Journal{Many: 9, Records: many(2), Synced: 1}, api.OK, 112 * 7},
		"all synced":                  {api.Journal{Many: 9, Records: many(2), Synced: 2}, api.OK, 112 * 7},
		"more than all synced":        {api.Journal{Many: 9, Records: many(2), Synced: 3}, api.ErrArg, 0},
		"more than no records synced": {api.Journal{Many: 9, Synced: 1}, api.ErrArg, 0},
		"the most synced":             {api.Journal{Many: 9, Records: many(2), Synced: math.MaxInt}, api.ErrArg, 0},
		"less than none synced":       {api.Journal{Many: 9, Records: many(2), Synced: -1}, api.ErrArg, 0},
		"the least synced":            {api.Journal{Many: 9, Records: many(2), Synced: math.MinInt}, api.ErrArg, 0},
		"full with empty records":     {api.Journal{Many: 5, Records: many(5)}, api.OK, 0},
		"one empty record too many":   {api.Journal{Many: 5, Records: many(6)}, api.ErrArg, 0},
		"all sectors full":            {api.Journal{Many: most, Records: many(most), Synced: most}, api.OK, 0},
		"all sectors, and one more":   {api.Journal{Many: most, Records: many(most + 1)}, api.ErrArg, 0},
		"112 bytes":                   {api.Journal{Many: 3, Records: sizes(112)}, api.OK, 224},
		"113 bytes":                   {api.Journal{Many: 3, Records: sizes(113)}, api.OK, 112},
		"224 bytes":                   {api.Journal{Many: 3, Records: sizes(224)}, api.OK, 112},
		"225 bytes":                   {api.Journal{Many: 3, Records: sizes(225)}, api.OK, 0},
		"336 bytes":                   {api.Journal{Many: 3, Records: sizes(336)}, api.OK, 0},
		"337 bytes":                   {api.Journal{Many: 3, Records: sizes(337)}, api.ErrArg, 0},
		"two records of 113 bytes":    {api.Journal{Many: 4, Records: sizes(113, 113)}, api.OK, 0},
		"and an empty one":            {api.Journal{Many: 4, Records: sizes(113, 0, 113)}, api.ErrArg, 0},
		"a record as long as a disk":  {api.Journal{Many: most, Records: sizes(112 * most)}, api.OK, 0},
		"a byte more than a disk":     {api.Journal{Many: most, Records: sizes(112*most + 1)}, api.ErrArg, 0},
	} {
		if e := journal.Check(x.j); e != x.want {
			t.Errorf("%s: Check: %d", what, e)
		}
		if n := journal.Room(x.j); n != x.room {
			t.Errorf("%s: Room: %d", what, n)
		}
		want := x.want
		if want == api.OK && x.room == 0 {
			want = api.ErrLimit
		}
		for _, n := range []int{0, 1, 112 * most, 112*most + 1} {
			y, e := journal.Append(x.j, noise(n, 1))
			switch {
			case want != api.OK:
				isJournal(t, what, y, e, api.Journal{}, want)
			case n > x.room:
				isJournal(t, what, y, e, api.Journal{}, api.ErrLimit)
			default:
				isJournal(t, what, y, e, appended(x.j, noise(n, 1)), api.OK)
			}
		}
	}
}

// appended returns the journal with one more record.
func appended(j api.Journal, b []byte) api.Journal {
	j.Records = append(slices.Clone(j.Records), b)
	return j
}

// P5.2: a record is appended if there is room for it. If there is any room, this depends on its length only.
func TestAppend(t *testing.T) {
	for _, j := range []api.Journal{
		{Many: 1},
		{Many: 2},
		{Many: 5, Records: sizes(0, 113)},
		{Many: 5, Records: sizes(0, 113), Synced: 1},
		{Many: 5, Records: sizes(112, 112, 112, 112), Synced: 4},
		{Many: most, Records: sizes(112*(most-2), 7), Synced: 2},
		{Many: most, Records: sizes(112 * (most - 3))},
	} {
		room := journal.Room(j)
		for _, n := range []int{0, 1, 111, 112, 113, 224, 225, room - 112, room - 111, room - 1, room} {
			if n >= 0 && n <= room {
				x, e := journal.Append(j, noise(n, 3))
				want := appended(j, noise(n, 3))
				isJournal(t, "room", x, e, want, api.OK)
				if left := journal.Room(x); left != room-112*len(laid(0, 1, noise(n, 3))) {
					t.Errorf("%d bytes: %d left of %d", n, left, room)
				}
			}
		}
		for _, n := range []int{room + 1, room + 112, room + 113, 1 << 24} {
			x, e := journal.Append(j, noise(n, 3))
			isJournal(t, "no room", x, e, api.Journal{}, api.ErrLimit)
		}
	}
}

// P5.2: a journal is filled with records, one by one.
func TestAppendMany(t *testing.T) {
	j := api.Journal{Many: most}
	var want [][]byte
	for i := range most {
		b := noise(i%113, i)
		want = append(want, b)
		x, e := journal.Append(j, b)
		if e != api.OK || len(x.Records) != i+1 || !bytes.Equal(x.Records[i], b) {
			t.Fatal(i, e)
		}
		j = x
	}
	isJournal(t, "full", j, api.OK, api.Journal{Many: most, Records: want}, api.OK)
	x, e := journal.Append(j, nil)
	isJournal(t, "more than full", x, e, api.Journal{}, api.ErrLimit)
}

// R2: records that are appended to one journal stay apart, and what is appended may change later.
func TestAppendMemory(t *testing.T) {
	spare := append(make([][]byte, 0, 9), sizes(3, 4, 5)...)
	j := api.Journal{Many: 9, Records: spare[:2], Synced: 1}
	b, c := noise(120, 1), noise(120, 2)
	one, _ := journal.Append(j, b)
	two, _ := journal.Append(j, c)
	three, _ := journal.Append(one, c)
	four, _ := journal.Append(one, nil)
	clear(b)
	want := api.Journal{Many: 9, Records: sizes(3, 4), Synced: 1}
	isJournal(t, "the argument", j, api.OK, want, api.OK)
	isJournal(t, "one", one, api.OK, appended(want, noise(120, 1)), api.OK)
	isJournal(t, "two", two, api.OK, appended(want, c), api.OK)
	isJournal(t, "three", three, api.OK, appended(one, c), api.OK)
	isJournal(t, "four", four, api.OK, appended(one, nil), api.OK)
	if !bytes.Equal(spare[2], sizes(3, 4, 5)[2]) {
		t.Error("the memory behind the argument was changed")
	}
}
