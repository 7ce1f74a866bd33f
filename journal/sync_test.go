package journal_test

import (
	"bytes"
	"encoding/binary"
	"math"
	"math/rand"
	"slices"
	"testing"

	"fasti/api"
	"fasti/disk"
	"fasti/journal"
)

// isSync checks all results of Sync.
func isSync(t *testing.T, what string, j api.Journal, d api.Disk, wantJ api.Journal, wantD api.Disk, err api.Errno) {
	t.Helper()
	x, y, e := journal.Sync(j, d)
	isJournal(t, what, x, e, wantJ, err)
	if !sameDisk(y, wantD) {
		t.Errorf("%s: error %d; %d of %d sectors, %d of %d pending, left %d of %d, stopped %t of %t", what, e, len(y.Sectors),
			len(wantD.Sectors), len(y.Pending), len(wantD.Pending), y.Left, wantD.Left, y.Stopped, wantD.Stopped)
		for k := range min(len(y.Sectors), len(wantD.Sectors)) {
			if !bytes.Equal(y.Sectors[k], wantD.Sectors[k]) {
				t.Errorf("sector %d:\n%x\n%x", k, y.Sectors[k], wantD.Sectors[k])
			}
		}
	}
}

// open returns the journal on a disk, with further records that are not synced.
func open(t *testing.T, d api.Disk, l ...[]byte) api.Journal {
	t.Helper()
	j, e := journal.Open(d)
	for _, b := range l {
		if e == api.OK {
			j, e = journal.Append(j, b)
		}
	}
	if e != api.OK {
		t.Fatalf("open: %d", e)
	}
	return j
}

// replaced returns the disk after these sectors were written from the number k on.
func replaced(d api.Disk, k int, sectors [][]byte) api.Disk {
	d.Sectors = slices.Concat(d.Sectors[:k], sectors, d.Sectors[k+len(sectors):])
	return d
}

// synced returns the journal with all its records synced.
func synced(j api.Journal) api.Journal {
	j.Synced = len(j.Records)
	return j
}

// noisy returns a disk with n sectors, none of which is good, of the greatest generation 7.
func noisy(n int) api.Disk {
	d := holding(n)
	for i := range d.Sectors {
		d.Sectors[i] = noise(size, i)
		copy(d.Sectors[i], []byte{0, 0, 0, 7})
		copy(d.Sectors[i][124:], []byte{0, 0, 0, 2})
	}
	return d
}

// P5.3: exactly the sectors of the records that were not synced are written, as the document's table describes them.
func TestSyncWrites(t *testing.T) {
	for _, l := range [][][]byte{
		sizes(0), sizes(1), sizes(112), sizes(113), sizes(224), sizes(225), sizes(12 * 112),
		sizes(0, 0, 0), sizes(3, 200, 0, 112, 300), sizes(112, 113, 1, 111),
		{make([]byte, 5), make([]byte, 112), make([]byte, 200), nil}, {{}, nil, {0}},
	} {
		for _, old := range [][][]byte{nil, sizes(0), sizes(112), sizes(1, 113), sizes(225, 112)} {
			before := laid(0, 3, old...)
			d := replaced(noisy(len(before)+14), 0, before)
			j := open(t, d, l...)
			want := replaced(d, len(before), laid(len(before), 8, l...))
			isSync(t, "Sync", j, d, synced(j), want, api.OK)
		}
	}
}

// P5.3: the last sector of the greatest disk, and one record or many on all of it.
func TestSyncFull(t *testing.T) {
	many := make([][]byte, most)
	for i := range many {
		many[i] = noise(i%113, i)
	}
	for _, l := range [][][]byte{sizes(most * piece), many, sizes((most-300)*piece, 0, 299*piece)} {
		j := api.Journal{Many: most, Records: l}
		isSync(t, "all sectors", j, noisy(most), synced(j), holding(0, laid(0, 8, l...)...), api.OK)
	}
	d := holding(0, laid(0, 4, many[:most-1]...)...)
	d.Sectors = append(d.Sectors, make([]byte, size))
	j := open(t, d, sizes(112)...)
	isSync(t, "the last sector", j, d, synced(j), replaced(d, most-1, laid(most-1, 5, sizes(112)...)), api.OK)
	one := holding(1)
	j = open(t, one, sizes(9)...)
	isSync(t, "the only sector", j, one, synced(j), holding(0, laid(0, 1, sizes(9)...)...), api.OK)
}

// P5.3: the generation is greater than all that any sector has a trace of, at either of its ends.
func TestSyncGeneration(t *testing.T) {
	for _, g := range []uint32{0, 1, 2, 254, 255, 256, 65535, 1 << 24, math.MaxInt32, 1 << 31, math.MaxUint32 - 1, math.MaxUint32} {
		for at := range 5 {
			for _, where := range []int{0, 124} {
				d := holding(5, laid(0, 1, sizes(3)...)...)
				if at == 0 {
					d = holding(5) // a sector with another generation has no record
				}
				d.Sectors[at] = slices.Clone(d.Sectors[at])
				binary.BigEndian.PutUint32(d.Sectors[at][where:], g)
				start, next := min(at, 1), max(g, uint32(min(at, 1)))+1
				j := open(t, d, sizes(200, 5)...)
				if g == math.MaxUint32 {
					isSync(t, "the last generation", j, d, api.Journal{}, api.Disk{}, api.ErrLog)
					j = open(t, d)
					isSync(t, "the last generation, all synced", j, d, api.Journal{}, api.Disk{}, api.ErrLog)
					continue
				}
				isSync(t, "generation", j, d, synced(j), replaced(d, start, laid(start, next, sizes(200, 5)...)), api.OK)
			}
		}
	}
}

// P5.3: each Sync that writes has a generation of its own, and one that has nothing to write has none.
func TestSyncGenerations(t *testing.T) {
	d := holding(9)
	var want [][]byte
	for i := range 9 {
		j := open(t, d, noise(i, i))
		want = append(want, sector(i, uint32(i+1), whole, noise(i, i)))
		isSync(t, "Sync", j, d, synced(j), holding(9, want...), api.OK)
		x, y, _ := journal.Sync(j, d)
		isSync(t, "nothing to write", x, y, x, y, api.OK)
		d = y
	}
	old := holding(3, laid(0, math.MaxUint32, sizes(4)...)...)
	isSync(t, "a record of the last generation", open(t, old), old, api.Journal{}, api.Disk{}, api.ErrLog)
}

// P5.3: without records that are not synced, neither the journal nor the disk is changed.
func TestSyncNothing(t *testing.T) {
	for _, l := range [][][]byte{nil, sizes(0), sizes(3, 200)} {
		for _, left := range []int{-1, 0, 1, 65536} {
			d := replaced(noisy(5), 0, laid(0, 2, l...))
			d.Left = left
			isSync(t, "nothing", open(t, d), d, open(t, d), d, api.OK)
		}
	}
}

// P5.3: each error, and which of several is named.
func TestSyncErrors(t *testing.T) {
	d := holding(4, laid(0, 1, sizes(3, 4)...)...)
	j := open(t, d, sizes(9)...)
	bad := j
	bad.Synced = 4
	stopped, pending, both, shorter, full := d, d, d, d, copied(d)
	stopped.Stopped, stopped.Left = true, 0
	pending.Pending = []api.Write{{At: 3, Data: noise(size, 1)}}
	both.Stopped, both.Pending = true, pending.Pending
	shorter.Sectors = d.Sectors[:3]
	full.Sectors[3] = bytes.Repeat([]byte{255}, size)
	other := api.Journal{Many: 4, Records: sizes(3, 5), Synced: 2}
	for what, x := range map[string]struct {
		j    api.Journal
		d    api.Disk
		want api.Errno
	}{
		"a wrong journal":                   {bad, d, api.ErrArg},
		"a wrong journal, a wrong disk":     {bad, api.Disk{}, api.ErrArg},
		"a wrong journal, a stopped disk":   {bad, stopped, api.ErrArg},
		"stopped":                           {j, stopped, api.ErrDisk},
		"stopped, pending":                  {j, both, api.ErrDisk},
		"stopped, another length":           {api.Journal{Many: 5}, stopped, api.ErrDisk},
		"pending":                           {j, pending, api.ErrArg},
		"pending, other records":            {other, pending, api.ErrArg},
		"less sectors":                      {j, shorter, api.ErrArg},
		"less sectors, nothing to write":    {open(t, d), shorter, api.ErrArg},
		"more sectors":                      {open(t, shorter), d, api.ErrArg},
		"another length, other records":     {api.Journal{Many: 5, Records: sizes(9), Synced: 1}, d, api.ErrArg},
		"another length, no generation":     {api.Journal{Many: 5}, full, api.ErrArg},
		"other records":                     {other, d, api.ErrLog},
		"no generation":                     {j, full, api.ErrLog},
		"no generation, nothing to write":   {open(t, d), full, api.ErrLog},
		"other records, nothing more known": {api.Journal{Many: 4}, d, api.ErrLog},
	} {
		isSync(t, what, x.j, x.d, api.Journal{}, api.Disk{}, x.want)
		if what == "no generation" {
			x.d.Left = 0
			isSync(t, "no generation, and none left", x.j, x.d, api.Journal{}, api.Disk{}, x.want)
		}
	}
	for what, w := range wrong() {
		for _, n := range []int{1, 3, max(1, min(most, len(w.Sectors)))} {
			isSync(t, what, api.Journal{Many: n}, w, api.Journal{}, api.Disk{}, api.ErrDisk)
		}
	}
}

// P5.3: the records on the disk are the first records of the journal: as many, in the same order, with the same bytes.
func TestSyncOtherRecords(t *testing.T) {
	d := holding(20, laid(0, 1, list("a", "", "bc", "bc")...)...)
	long := holding(20, laid(0, 1, sizes(300, 112)...)...)
	for _, x := range []struct {
		d       api.Disk
		records [][]byte
		synced  int
		want    api.Errno
	}{
		{d, list("a", "", "bc", "bc"), 4, api.OK},
		{d, [][]byte{[]byte("a"), nil, []byte("bc"), []byte("bc")}, 4, api.OK},
		{d, list("a", "", "bc", "bc", "d"), 4, api.OK},
		{d, list("a", "", "bc", "bc"), 3, api.ErrLog},
		{d, list("a", "", "bc", "bc", "d"), 5, api.ErrLog},
		{d, list("a", "", "bc", "bc"), 0, api.ErrLog},
		{d, list("a", "", "bc"), 3, api.ErrLog},
		{d, list("", "a", "bc", "bc"), 4, api.ErrLog},
		{d, list("a", "", "bc", "bd"), 4, api.ErrLog},
		{d, list("A", "", "bc", "bc"), 4, api.ErrLog},
		{d, list("a", "", "bc", "b"), 4, api.ErrLog},
		{d, list("a", "", "bc", "bcd"), 4, api.ErrLog},
		{d, list("a", "\x00", "bc", "bc"), 4, api.ErrLog},
		{d, list("a", "bc", "bc"), 3, api.ErrLog},
		{d, nil, 0, api.ErrLog},
		{long, sizes(300, 112), 2, api.OK},
		{long, [][]byte{sizes(300)[0][:112], sizes(300)[0][112:], sizes(300, 112)[1]}, 3, api.ErrLog},
		{long, [][]byte{slices.Concat(sizes(300, 112)...)}, 1, api.ErrLog},
		{long, [][]byte{noise(300, 9), sizes(300, 112)[1]}, 2, api.ErrLog},
		{holding(20), nil, 0, api.OK},
		{holding(20), list("a"), 0, api.OK},
		{holding(20), list("a"), 1, api.ErrLog},
		{holding(20), list(""), 1, api.ErrLog},
		{noisy(20), list(""), 1, api.ErrLog},
	} {
		j := api.Journal{Many: 20, Records: x.records, Synced: x.synced}
		if x.want != api.OK {
			isSync(t, "other records", j, x.d, api.Journal{}, api.Disk{}, x.want)
			continue
		}
		k := len(laid(0, 1, x.records[:x.synced]...))
		g := 1 + uint32(min(k, 1))
		isSync(t, "the same records", j, x.d, synced(j), replaced(x.d, k, laid(k, g, x.records[x.synced:]...)), api.OK)
	}
}

// P5.3: the disk counts the writes, and stops as disk.Sync says.
func TestSyncLeft(t *testing.T) {
	for _, l := range [][][]byte{sizes(0), sizes(5), sizes(200), sizes(3, 300, 0), sizes(64, 112, 500, 7)} {
		d := replaced(noisy(12), 0, laid(0, 2, sizes(30)...))
		j := open(t, d, l...)
		sectors := laid(1, 8, l...)
		for left := range len(sectors) + 3 {
			d.Left = left
			if left >= len(sectors) {
				want := replaced(d, 1, sectors)
				want.Left = left - len(sectors)
				isSync(t, "not stopped", j, d, synced(j), want, api.OK)
				continue
			}
			torn := slices.Concat(sectors[left][:64], d.Sectors[1+left][64:])
			want := replaced(replaced(d, 1, sectors[:left]), 1+left, [][]byte{torn})
			want.Left, want.Stopped = 0, true
			isSync(t, "stopped", j, d, api.Journal{}, want, api.ErrDisk)
		}
	}
}

// P5.1, P5.2, P5.3: what the document gives as examples.
func TestExamples(t *testing.T) {
	if n := journal.Room(api.Journal{Many: 1}); n != 112 {
		t.Error(n)
	}
	j, e := journal.Append(api.Journal{Many: 1}, noise(113, 1))
	isJournal(t, "113 bytes", j, e, api.Journal{}, api.ErrLimit)
	if e := journal.Check(api.Journal{}); e != api.ErrArg {
		t.Error(e)
	}
	if j, e = journal.Append(api.Journal{Many: 2}, nil); e != api.OK || journal.Room(j) != 112 {
		t.Error("a record without bytes", e)
	}
	old := holding(4, laid(0, 1, sizes(9)...)...)
	d := old
	d.Left = 0
	_, y, e := journal.Sync(open(t, d, sizes(5, 5)...), d)
	if e != api.ErrDisk {
		t.Error("stopped before the first write", e)
	}
	opens(t, "torn", disk.Restart(y), sizes(9)...)
}

// survivors returns the records that remain if the disk stops after some writes: those whose last sector was written.
func survivors(l [][]byte, left int) [][]byte {
	for i, b := range l {
		if left -= len(laid(0, 1, b)); left < 0 {
			return l[:i]
		}
	}
	return l
}

// crash syncs the records of a journal to a disk that stops after some writes, and returns the restarted disk.
func crash(t *testing.T, j api.Journal, d api.Disk, left int) api.Disk {
	t.Helper()
	d, e := disk.Stop(d, left)
	if e != api.OK {
		t.Fatal("stop", e)
	}
	x, y, e := journal.Sync(j, d)
	if (e == api.OK) != sameJournal(x, synced(j)) || e != api.OK && (e != api.ErrDisk || !y.Stopped || !sameJournal(x, api.Journal{})) {
		t.Fatal("sync", e)
	}
	return disk.Restart(y)
}

// crashes goes through all that can happen to a disk in some rounds, in each of which records are written until the disk stops.
func crashes(t *testing.T, d api.Disk, have [][]byte, rounds int) {
	t.Helper()
	opens(t, "after a crash", d, have...)
	if rounds == 0 || t.Failed() {
		return
	}
	for i, l := range [][][]byte{sizes(70), sizes(112, 3), sizes(113), sizes(0, 120), sizes(300)} {
		sectors := laid(0, 1, l...)
		if len(laid(0, 1, have...))+len(sectors) > len(d.Sectors) {
			continue
		}
		for k := range l {
			l[k] = noise(len(l[k]), 10*rounds+i)
		}
		for left := range len(sectors) + 1 {
			y := crash(t, open(t, d, l...), d, left)
			crashes(t, y, slices.Concat(have, survivors(l, left)), rounds-1)
		}
	}
}

// P5.4: what remains after any sequence of crashes, in each of which a sector is torn.
func TestCrashes(t *testing.T) {
	crashes(t, holding(4), nil, 4)
	crashes(t, holding(6, laid(0, 1, sizes(40, 130)...)...), sizes(40, 130), 3)
	crashes(t, noisy(5), nil, 3)
}

// P5.4: sectors that a former journal left behind the records never become records again.
func TestCrashesOverOld(t *testing.T) {
	for _, l := range [][][]byte{sizes(1, 2, 3, 4), sizes(112, 300), sizes(448), sizes(200, 200)} {
		d := holding(4, laid(0, 9, l...)...)
		for k := range 4 {
			spoiled := copied(d)
			spoiled.Sectors[k][50] ^= 4
			have := survivors(l, k)
			if len(laid(0, 1, l...)) == 4 && len(have) < len(l) {
				crashes(t, spoiled, have, 3)
			}
		}
	}
}

// P5.4: many crashes, one after the other, of large disks by chance.
func TestCrashesMany(t *testing.T) {
	r := rand.New(rand.NewSource(54))
	for range 40 {
		d := holding(10 + r.Intn(60))
		var have [][]byte
		for round := 0; round < 40; round++ {
			j := open(t, d)
			for range r.Intn(5) {
				b := noise(r.Intn(4)*r.Intn(150), r.Intn(9999))
				if x, e := journal.Append(j, b); e == api.OK {
					j = x
				}
			}
			l := j.Records[len(have):]
			left := r.Intn(2 + len(laid(0, 1, l...)))
			d = crash(t, j, d, left)
			have = slices.Concat(have, survivors(l, left))
			opens(t, "by chance", d, have...)
		}
	}
}

// P5.4: after Sync, Open returns the records, and the journal that Sync returned, for records that are synced at once or apart.
func TestSyncOpen(t *testing.T) {
	r := rand.New(rand.NewSource(55))
	for range 50 {
		d := noisy(40)
		j := open(t, d)
		var want [][]byte
		for range 30 {
			b := noise(r.Intn(3)*r.Intn(180), r.Intn(9999))
			x, e := journal.Append(j, b)
			if e != api.OK {
				break
			}
			j, want = x, append(want, b)
			if r.Intn(3) > 0 {
				continue
			}
			if j, d, e = journal.Sync(j, d); e != api.OK {
				t.Fatal(e)
			}
			isJournal(t, "what Sync returns", j, e, open(t, d), api.OK)
			opens(t, "after Sync", d, want...)
		}
	}
}

// P5.4: a byte that is changed takes away the records from the one on to which its sector belongs, and no others.
func TestByteChanged(t *testing.T) {
	d := holding(14)
	var want [][]byte
	for i, l := range [][][]byte{sizes(5, 112), sizes(0, 230), sizes(113, 224), nil, sizes(1)} {
		for k := range l {
			l[k] = noise(len(l[k]), 10*i+k)
		}
		_, y, e := journal.Sync(open(t, d, l...), d)
		if e != api.OK {
			t.Fatal(e)
		}
		d, want = y, append(want, l...)
	}
	opens(t, "unchanged", d, want...)
	used := len(laid(0, 1, want...))
	for k := range used {
		for at := range size {
			for _, flip := range []byte{1, 2, 4, 8, 16, 32, 64, 128, 255, 3, 0x55} {
				x := d
				x.Sectors = slices.Clone(d.Sectors)
				x.Sectors[k] = slices.Clone(d.Sectors[k])
				x.Sectors[k][at] ^= flip
				opens(t, "a byte changed", x, survivors(want, k)...)
			}
		}
	}
}

// R2: the arguments stay as they are, and so does the memory behind their ends.
func TestSyncArguments(t *testing.T) {
	d := holding(9, laid(0, 1, sizes(3)...)...)
	spare := append(make([][]byte, 0, 9), sizes(3, 200, 5, 6)...)
	pending := make([]api.Write, 0, 99)
	d.Pending = pending
	for _, left := range []int{-1, 0, 1, 2, 3, 4} {
		d.Left = left
		j := api.Journal{Many: 9, Records: spare[:3], Synced: 1}
		oldJ, oldD, oldSpare := api.Journal{Many: 9, Records: copies(j.Records), Synced: 1}, copied(d), copies(spare)
		x, y, e := journal.Sync(j, d)
		keptY, keptX := copied(y), api.Journal{Many: x.Many, Records: copies(x.Records), Synced: x.Synced}
		journal.Sync(j, d)
		journal.Open(d)
		if e == api.OK {
			z, f := journal.Append(x, sizes(9)[0])
			if _, _, g := journal.Sync(z, disk.Restart(y)); f != api.OK || g != api.OK {
				t.Error(f, g)
			}
		}
		if !sameJournal(j, oldJ) || !sameDisk(d, oldD) || !slices.EqualFunc(spare, oldSpare, bytes.Equal) {
			t.Error("an argument was changed")
		}
		if !slices.EqualFunc(pending[:99], make([]api.Write, 99), func(v, w api.Write) bool { return v.At == w.At && len(v.Data) == len(w.Data) }) {
			t.Error("the memory behind the pending writes was changed")
		}
		if !sameJournal(x, keptX) || !sameDisk(y, keptY) {
			t.Error("a result was changed later")
		}
	}
}

// R2, R6: results follow from the contents of the arguments, not from memory that they share.
func TestSharedMemory(t *testing.T) {
	zero := make([]byte, size)
	d := api.Disk{Sectors: [][]byte{zero, zero, zero, zero}, Left: -1}
	b := noise(150, 1)
	j := api.Journal{Many: 4, Records: [][]byte{b, b}}
	isSync(t, "shared", j, d, synced(j), holding(0, laid(0, 1, b, b)...), api.OK)
	if !bytes.Equal(zero, make([]byte, size)) {
		t.Error("an argument was changed")
	}
}
