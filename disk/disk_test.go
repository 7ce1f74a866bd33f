package disk_test

import (
	"bytes"
	"math"
	"math/rand"
	"slices"
	"testing"

	"fasti/api"
	"fasti/disk"
)

const (
	size    = 128
	most    = 4096  // sectors, and pending writes
	maxLeft = 65536 // the greatest Left
)

// noise returns n bytes that follow from seed, none of which is 0.
func noise(n int, seed int) []byte {
	b := make([]byte, n)
	for i := range b {
		b[i] = byte(1 + (31*seed+7*i+seed/8)%255)
	}
	return b
}

// full returns the contents of a sector that begins with b.
func full(b []byte) []byte { return append(slices.Clone(b), make([]byte, size-len(b))...) }

// torn returns the contents of a sector of which only the first half was written.
func torn(b, old []byte) []byte { return slices.Concat(b[:64], old[64:]) }

// fresh returns a disk with n sectors that differ from each other.
func fresh(n int) api.Disk {
	d := api.Disk{Left: -1}
	for i := range n {
		d.Sectors = append(d.Sectors, noise(size, 1000+i))
	}
	return d
}

// pend returns the disk with n further pending writes, all to the sector at.
func pend(d api.Disk, at, n int) api.Disk {
	d.Pending = slices.Clone(d.Pending)
	for i := range n {
		d.Pending = append(d.Pending, api.Write{At: at, Data: noise(size, i)})
	}
	return d
}

// copied returns a disk that shares no memory with d.
func copied(d api.Disk) api.Disk {
	d.Sectors = slices.Clone(d.Sectors)
	for i, b := range d.Sectors {
		d.Sectors[i] = slices.Clone(b)
	}
	d.Pending = slices.Clone(d.Pending)
	for i, w := range d.Pending {
		d.Pending[i].Data = slices.Clone(w.Data)
	}
	return d
}

func same(a, b api.Disk) bool {
	return a.Left == b.Left && a.Stopped == b.Stopped && slices.EqualFunc(a.Sectors, b.Sectors, bytes.Equal) &&
		slices.EqualFunc(a.Pending, b.Pending, func(v, w api.Write) bool { return v.At == w.At && bytes.Equal(v.Data, w.Data) })
}

// is checks both results of a function that returns a disk.
func is(t *testing.T, what string, d api.Disk, e api.Errno, want api.Disk, err api.Errno) {
	t.Helper()
	if e != err || !same(d, want) {
		t.Errorf("%s: error %d instead of %d; %d of %d sectors, %d of %d pending, left %d of %d, stopped %t of %t", what, e, err,
			len(d.Sectors), len(want.Sectors), len(d.Pending), len(want.Pending), d.Left, want.Left, d.Stopped, want.Stopped)
	}
}

// holds checks what is read from all sectors.
func holds(t *testing.T, what string, d api.Disk, want ...[]byte) {
	t.Helper()
	if len(want) != len(d.Sectors) {
		t.Fatalf("%s: %d sectors", what, len(d.Sectors))
	}
	for i, w := range want {
		if b, e := disk.Read(d, i); e != api.OK || !bytes.Equal(b, w) {
			t.Errorf("%s: sector %d: %v, %d", what, i, b, e)
		}
	}
}

func write(t *testing.T, d api.Disk, at int, b []byte) api.Disk {
	t.Helper()
	x, e := disk.Write(d, at, b)
	if e != api.OK {
		t.Fatalf("write to %d: %d", at, e)
	}
	return x
}

func sync(t *testing.T, d api.Disk) api.Disk {
	t.Helper()
	x, e := disk.Sync(d)
	if e != api.OK {
		t.Fatalf("sync: %d", e)
	}
	return x
}

func stop(t *testing.T, d api.Disk, left int) api.Disk {
	t.Helper()
	x, e := disk.Stop(d, left)
	if e != api.OK {
		t.Fatalf("stop: %d", e)
	}
	return x
}

// refused checks that all functions that return errors answer ErrDisk and nothing else, whatever other errors there are.
func refused(t *testing.T, what string, d api.Disk) {
	t.Helper()
	for _, at := range []int{0, 1, -1, len(d.Sectors), math.MinInt, math.MaxInt} {
		if b, e := disk.Read(d, at); e != api.ErrDisk || len(b) != 0 {
			t.Errorf("%s: Read: %v, %d", what, b, e)
		}
		for _, n := range []int{0, 1, size, size + 1} {
			x, e := disk.Write(d, at, make([]byte, n))
			is(t, what+": Write", x, e, api.Disk{}, api.ErrDisk)
		}
	}
	for _, left := range []int{0, 1, maxLeft, -1, maxLeft + 1, math.MinInt, math.MaxInt} {
		x, e := disk.Stop(d, left)
		is(t, what+": Stop", x, e, api.Disk{}, api.ErrDisk)
	}
	x, e := disk.Sync(d)
	is(t, what+": Sync", x, e, api.Disk{}, api.ErrDisk)
}

// P4.1
func TestNew(t *testing.T) {
	for _, n := range []int{1, 2, 3, 100, most - 1, most} {
		want := api.Disk{Left: -1}
		for range n {
			want.Sectors = append(want.Sectors, make([]byte, size))
		}
		d, e := disk.New(n)
		is(t, "New", d, e, want, api.OK)
		if e := disk.Check(d); e != api.OK {
			t.Errorf("%d: %d", n, e)
		}
	}
	for _, n := range []int{0, -1, most + 1, math.MinInt, math.MaxInt, 1 << 32, 1<<32 + 1} {
		d, e := disk.New(n)
		is(t, "New", d, e, api.Disk{}, api.ErrArg)
	}
}

// P4.1: what the term 'valid' admits, up to its limits.
func TestCheckValid(t *testing.T) {
	for what, d := range map[string]api.Disk{
		"one sector":        fresh(1),
		"all sectors":       fresh(most),
		"none left":         {Sectors: fresh(2).Sectors},
		"the most left":     {Sectors: fresh(2).Sectors, Left: maxLeft},
		"no pending":        {Sectors: fresh(2).Sectors, Pending: []api.Write{}, Left: 1},
		"pending":           pend(pend(fresh(2), 0, 3), 1, 3),
		"the most pending":  pend(fresh(1), 0, most),
		"the last sector":   pend(fresh(most), most-1, 1),
		"stopped":           {Sectors: fresh(2).Sectors, Stopped: true},
		"stopped, but left": {Sectors: fresh(2).Sectors, Pending: pend(fresh(2), 1, 2).Pending, Left: 9, Stopped: true},
	} {
		if e := disk.Check(d); e != api.OK {
			t.Errorf("%s: %d", what, e)
		}
	}
}

// P4.1, P4.2, P4.3: what the term 'valid' does not admit, stopped or not.
func TestCheckInvalid(t *testing.T) {
	with := func(w ...api.Write) api.Disk {
		d := fresh(2)
		d.Pending = w
		return d
	}
	good := api.Write{At: 1, Data: noise(size, 1)}
	for what, d := range map[string]api.Disk{
		"the zero disk":             {},
		"no sectors":                {Sectors: [][]byte{}, Left: -1},
		"too many sectors":          fresh(most + 1),
		"a short sector":            {Sectors: [][]byte{noise(size-1, 1)}, Left: -1},
		"a long sector":             {Sectors: [][]byte{noise(size+1, 1)}, Left: -1},
		"a sector without bytes":    {Sectors: [][]byte{noise(size, 1), nil}, Left: -1},
		"a short last sector":       {Sectors: append(fresh(9).Sectors, noise(size-1, 1)), Left: -1},
		"less than all left":        {Sectors: fresh(2).Sectors, Left: -2},
		"least left":                {Sectors: fresh(2).Sectors, Left: math.MinInt},
		"too many left":             {Sectors: fresh(2).Sectors, Left: maxLeft + 1},
		"most left":                 {Sectors: fresh(2).Sectors, Left: math.MaxInt},
		"too many pending":          pend(fresh(2), 1, most+1),
		"pending before the first":  with(api.Write{At: -1, Data: noise(size, 1)}),
		"pending after the last":    with(good, api.Write{At: 2, Data: noise(size, 1)}),
		"pending at the least int":  with(api.Write{At: math.MinInt, Data: noise(size, 1)}, good),
		"pending at the most int":   with(good, api.Write{At: math.MaxInt, Data: noise(size, 1)}, good),
		"short pending":             with(good, api.Write{At: 1, Data: noise(size-1, 1)}),
		"long pending":              with(api.Write{At: 0, Data: noise(size+1, 1)}, good),
		"pending without bytes":     with(api.Write{}),
		"pending, but no sectors":   {Pending: []api.Write{good}, Left: -1},
		"pending at a later sector": {Sectors: fresh(1).Sectors, Pending: []api.Write{good}, Left: -1},
	} {
		for _, d.Stopped = range []bool{false, true} {
			if e := disk.Check(d); e != api.ErrDisk {
				t.Errorf("%s: %d", what, e)
			}
			refused(t, what, d)
		}
	}
}

// P4.1
func TestRestart(t *testing.T) {
	for what, d := range map[string]api.Disk{
		"new":                 fresh(3),
		"pending":             pend(fresh(3), 1, 2),
		"left":                {Sectors: fresh(3).Sectors, Left: 7},
		"none left":           {Sectors: fresh(3).Sectors},
		"stopped":             {Sectors: fresh(3).Sectors, Stopped: true},
		"stopped and pending": {Sectors: fresh(3).Sectors, Pending: pend(fresh(3), 1, 2).Pending, Left: 5, Stopped: true},
		"the zero disk":       {},
		"invalid sectors":     {Sectors: [][]byte{nil, noise(3, 3), noise(size+1, 1)}, Left: 4},
		"too many sectors":    fresh(most + 1),
		"invalid pending":     {Pending: []api.Write{{At: -1}}, Left: math.MaxInt, Stopped: true},
		"invalid left":        {Sectors: fresh(1).Sectors, Left: math.MinInt},
	} {
		if x := disk.Restart(d); !same(x, api.Disk{Sectors: d.Sectors, Left: -1}) {
			t.Errorf("%s: %d sectors, %d pending, %d left, %t", what, len(x.Sectors), len(x.Pending), x.Left, x.Stopped)
		}
	}
}

// P4.2: the last one of the writes to a sector counts, and the sector if there is none.
func TestRead(t *testing.T) {
	d := fresh(4)
	holds(t, "no writes", d, d.Sectors...)
	for i, at := range []int{2, 0, 2, 3, 0} {
		d.Pending = append(d.Pending, api.Write{At: at, Data: noise(size, i)})
	}
	for _, d.Left = range []int{-1, 0, 1, maxLeft} {
		holds(t, "writes", d, noise(size, 4), d.Sectors[1], noise(size, 2), noise(size, 3))
	}
	for _, at := range []int{-1, 4, 5, math.MinInt, math.MaxInt, 1 << 32} {
		if b, e := disk.Read(d, at); e != api.ErrDisk || len(b) != 0 {
			t.Errorf("%d: %v, %d", at, b, e)
		}
	}
	one, _ := disk.New(1)
	if b, e := disk.Read(one, 1); e != api.ErrDisk || len(b) != 0 {
		t.Errorf("the second sector of one: %v, %d", b, e)
	}
}

// P4.2: zero bytes follow what is shorter than a sector, whatever was there before.
func TestWrite(t *testing.T) {
	for n := range size + 1 {
		for at := range 3 {
			d := pend(fresh(3), at, 2)
			d.Left = n
			b := noise(n, n+5)
			x, e := disk.Write(d, at, b)
			want := d
			want.Pending = append(slices.Clone(d.Pending), api.Write{At: at, Data: full(b)})
			is(t, "Write", x, e, want, api.OK)
			if got, e := disk.Read(x, at); e != api.OK || !bytes.Equal(got, full(b)) {
				t.Errorf("%d bytes: %v, %d", n, got, e)
			}
		}
	}
	d := fresh(1)
	x, e := disk.Write(d, 0, nil)
	y, f := disk.Write(d, 0, []byte{})
	want := api.Disk{Sectors: d.Sectors, Pending: []api.Write{{Data: make([]byte, size)}}, Left: -1}
	is(t, "nil", x, e, want, api.OK)
	is(t, "no bytes", y, f, want, api.OK)
}

// P4.2: each error of Write, and which of two comes first.
func TestWriteInvalid(t *testing.T) {
	short, crowded := fresh(3), pend(fresh(3), 1, most)
	for _, x := range []struct {
		d     api.Disk
		at, n int
		want  api.Errno
	}{
		{short, -1, 1, api.ErrDisk}, {short, 3, 1, api.ErrDisk}, {short, math.MinInt, 1, api.ErrDisk}, {short, math.MaxInt, 1, api.ErrDisk},
		{short, -1, size + 1, api.ErrDisk}, {short, 3, size + 1, api.ErrDisk}, {crowded, 3, 1, api.ErrDisk}, {crowded, -1, size + 1, api.ErrDisk},
		{short, 0, size + 1, api.ErrArg}, {short, 2, 10 * size, api.ErrArg}, {crowded, 0, size + 1, api.ErrArg},
		{crowded, 0, size, api.ErrLimit}, {crowded, 2, 0, api.ErrLimit},
	} {
		y, e := disk.Write(x.d, x.at, make([]byte, x.n))
		is(t, "Write", y, e, api.Disk{}, x.want)
	}
	almost := pend(fresh(3), 1, most-1)
	last := write(t, almost, 0, noise(size, 3))
	if len(last.Pending) != most || disk.Check(last) != api.OK {
		t.Errorf("%d pending", len(last.Pending))
	}
}

// P4.2, P4.3: a disk that has stopped is valid, and refuses everything.
func TestStopped(t *testing.T) {
	for _, left := range []int{-1, 0, 3, maxLeft} {
		for _, n := range []int{0, 2, most} {
			d := pend(fresh(3), 1, n)
			d.Left, d.Stopped = left, true
			if e := disk.Check(d); e != api.OK {
				t.Error(e)
			}
			refused(t, "stopped", d)
		}
	}
}

// P4.3: each number of writes that are left, with writes to other sectors and to the same one.
func TestSync(t *testing.T) {
	a, b, c, d := noise(size, 1), noise(size, 2), noise(size, 3), noise(size, 4)
	base := fresh(4)
	old := base.Sectors
	base.Pending = []api.Write{{At: 0, Data: a}, {At: 2, Data: b}, {At: 0, Data: c}, {At: 0, Data: d}}
	for left, want := range map[int][][]byte{
		0: {torn(a, old[0]), old[1], old[2], old[3]},
		1: {a, old[1], torn(b, old[2]), old[3]},
		2: {torn(c, a), old[1], b, old[3]},
		3: {torn(d, c), old[1], b, old[3]},
	} {
		base.Left = left
		x, e := disk.Sync(base)
		is(t, "a disk that stops", x, e, api.Disk{Sectors: want, Stopped: true}, api.ErrDisk)
		holds(t, "restarted", disk.Restart(x), want...)
	}
	all := [][]byte{d, old[1], b, old[3]}
	for _, left := range []int{-1, 4, 5, 100, maxLeft} {
		base.Left = left
		x, e := disk.Sync(base)
		is(t, "a disk that goes on", x, e, api.Disk{Sectors: all, Left: max(left-4, -1)}, api.OK)
	}
}

// P4.3: without writes nothing is torn, even if none is left.
func TestSyncNothing(t *testing.T) {
	for _, left := range []int{-1, 0, 1, maxLeft} {
		d := fresh(3)
		d.Left = left
		x, e := disk.Sync(d)
		is(t, "no writes", x, e, d, api.OK)
	}
}

// P4.3: as many writes as can be pending.
func TestSyncMany(t *testing.T) {
	base := fresh(most)
	want := slices.Clone(base.Sectors)
	for i := range most {
		base.Pending = append(base.Pending, api.Write{At: most - 1 - i, Data: noise(size, i)})
		want[most-1-i] = noise(size, i)
	}
	for _, left := range []int{-1, most, maxLeft} {
		base.Left = left
		x, e := disk.Sync(base)
		is(t, "all sectors", x, e, api.Disk{Sectors: want, Left: max(left-most, -1)}, api.OK)
	}
	want[0] = torn(want[0], base.Sectors[0])
	base.Left = most - 1
	x, e := disk.Sync(base)
	is(t, "all sectors but half of one", x, e, api.Disk{Sectors: want, Stopped: true}, api.ErrDisk)
}

// P4.3
func TestStop(t *testing.T) {
	for _, old := range []int{-1, 0, 5, maxLeft} {
		for _, left := range []int{0, 1, 4096, maxLeft - 1, maxLeft} {
			d := pend(fresh(2), 1, 3)
			d.Left = old
			x, e := disk.Stop(d, left)
			d.Left = left
			is(t, "Stop", x, e, d, api.OK)
		}
		for _, left := range []int{-1, -2, maxLeft + 1, math.MinInt, math.MaxInt, 1 << 32} {
			d := fresh(2)
			d.Left = old
			x, e := disk.Stop(d, left)
			is(t, "Stop", x, e, api.Disk{}, api.ErrArg)
		}
	}
}

// P4.1, P4.2, P4.3: what the document gives as examples.
func TestExamples(t *testing.T) {
	d, e := disk.New(0)
	is(t, "New(0)", d, e, api.Disk{}, api.ErrArg)
	d, _ = disk.New(2)
	a, b, zero := noise(size, 1), noise(size, 2), make([]byte, size)
	w := write(t, write(t, d, 0, a), 1, b)
	holds(t, "written", w, a, b)
	holds(t, "not synced", disk.Restart(w), zero, zero)
	x, e := disk.Sync(stop(t, w, 1))
	is(t, "the second one torn", x, e, api.Disk{Sectors: [][]byte{a, torn(b, zero)}, Stopped: true}, api.ErrDisk)
	x, e = disk.Sync(write(t, write(t, stop(t, d, 1), 0, a), 1, b))
	is(t, "stopped before the writes", x, e, api.Disk{Sectors: [][]byte{a, torn(b, zero)}, Stopped: true}, api.ErrDisk)
}

// P4.3: what is left is counted over several syncs.
func TestLeftCounts(t *testing.T) {
	d := stop(t, fresh(3), 5)
	old := d.Sectors
	d = sync(t, write(t, write(t, d, 0, noise(size, 1)), 1, noise(size, 2)))
	d = sync(t, sync(t, d))
	d = sync(t, write(t, d, 0, noise(size, 3)))
	if d.Left != 2 {
		t.Fatalf("%d left", d.Left)
	}
	d = sync(t, write(t, write(t, d, 1, noise(size, 4)), 0, noise(size, 5)))
	if d.Left != 0 || d.Stopped {
		t.Fatalf("%d left, %t", d.Left, d.Stopped)
	}
	x, e := disk.Sync(write(t, d, 2, noise(size, 6)))
	want := [][]byte{noise(size, 5), noise(size, 4), torn(noise(size, 6), old[2])}
	is(t, "the last write", x, e, api.Disk{Sectors: want, Stopped: true}, api.ErrDisk)
	d = disk.Restart(x)
	d = sync(t, write(t, d, 2, noise(size, 7)))
	holds(t, "after a restart", d, noise(size, 5), noise(size, 4), noise(size, 7))
}

// P4.4: writes that are synced one by one, in groups, or together lead to the same disk.
func TestOneByOne(t *testing.T) {
	r := rand.New(rand.NewSource(4))
	for _, left := range []int{-1, 200, 201, maxLeft} {
		for _, group := range []int{1, 2, 7, 99} {
			together := fresh(5)
			together.Left = left
			apart := together
			for i := range 200 {
				at, b := r.Intn(5), noise(r.Intn(size+1), i)
				together, apart = write(t, together, at, b), write(t, apart, at, b)
				if i%group == 0 {
					apart = sync(t, apart)
				}
			}
			if !same(sync(t, together), sync(t, apart)) {
				t.Errorf("%d left, groups of %d", left, group)
			}
		}
	}
}

// A model is a disk as one sheet of bytes, with a sheet for what is read as long as it has not stopped.
type model struct {
	synced, seen []byte
	at           []int // the sectors of the writes that are not synced
	data         [][]byte
	left         int
	stopped      bool
}

func (m *model) write(at int, b []byte) {
	m.at, m.data = append(m.at, at), append(m.data, full(b))
	copy(m.seen[at*size:], full(b))
}

func (m *model) sync() api.Errno {
	for i, at := range m.at {
		if m.left == 0 {
			copy(m.synced[at*size:], m.data[i][:64])
			m.stopped = true
			break
		}
		copy(m.synced[at*size:], m.data[i])
		if m.left > 0 {
			m.left--
		}
	}
	m.at, m.data = nil, nil
	if m.stopped {
		return api.ErrDisk
	}
	return api.OK
}

func (m *model) restart() {
	m.seen, m.at, m.data, m.left, m.stopped = slices.Clone(m.synced), nil, nil, -1, false
}

func (m *model) disk() api.Disk {
	d := api.Disk{Left: m.left, Stopped: m.stopped}
	for i := 0; i < len(m.synced); i += size {
		d.Sectors = append(d.Sectors, m.synced[i:i+size])
	}
	for i, at := range m.at {
		d.Pending = append(d.Pending, api.Write{At: at, Data: m.data[i]})
	}
	return d
}

// step does something by chance to a disk and to the model of it.
func step(t *testing.T, r *rand.Rand, m *model, d api.Disk) (x api.Disk) {
	t.Helper()
	x, e, want := d, api.OK, api.OK
	switch k := r.Intn(20); {
	case m.stopped:
		refused(t, "a disk that has stopped", d)
		x = disk.Restart(d)
		m.restart()
	case k < 14:
		at, b := r.Intn(len(d.Sectors)), noise(r.Intn(size+1), r.Int()%9999)
		x, e = disk.Write(d, at, b)
		m.write(at, b)
	case k < 17:
		x, e = disk.Sync(d)
		want = m.sync()
	case k < 19:
		left := r.Intn(9)
		x, e = disk.Stop(d, left)
		m.left = left
	default:
		x = disk.Restart(d)
		m.restart()
	}
	is(t, "as the model", x, e, m.disk(), want)
	return x
}

// P4.4: disks of any past are valid, read what was written last, and keep what was synced. No call changes
// a disk that was returned before.
func TestAsModel(t *testing.T) {
	r := rand.New(rand.NewSource(44))
	for range 60 {
		n := 1 + r.Intn(4)
		m := &model{synced: make([]byte, n*size), left: -1}
		m.restart()
		d, _ := disk.New(n)
		var past, kept []api.Disk
		for range 150 {
			d = step(t, r, m, d)
			past, kept = append(past, d), append(kept, copied(d))
			if e := disk.Check(d); e != api.OK {
				t.Fatal(e)
			}
			if !m.stopped {
				holds(t, "as the model", d, slices.Collect(slices.Chunk(m.seen, size))...)
			}
		}
		if !slices.EqualFunc(past, kept, same) {
			t.Fatal("a disk was changed after it had been returned")
		}
	}
}

// P4.4: a sync that stops keeps what was synced before in all sectors that its writes do not reach.
func TestTornKeeps(t *testing.T) {
	for n := range 6 {
		for left := range n {
			d := fresh(6)
			want := slices.Clone(d.Sectors)
			for i := range n {
				d = write(t, d, i, noise(size, i))
				switch {
				case i < left:
					want[i] = noise(size, i)
				case i == left:
					want[i] = torn(noise(size, i), want[i])
				}
			}
			x, e := disk.Sync(stop(t, d, left))
			is(t, "torn", x, e, api.Disk{Sectors: want, Stopped: true}, api.ErrDisk)
		}
	}
}

// R2: the arguments stay as they are, and so does the memory behind their ends.
func TestArguments(t *testing.T) {
	d := pend(fresh(3), 1, 9)
	spare := d.Pending
	d.Pending, d.Left = d.Pending[:3], 2
	b := noise(200, 5)
	before, beyond, bytesBefore := copied(d), copied(api.Disk{Pending: spare}), slices.Clone(b)
	disk.Check(d)
	disk.Read(d, 1)
	one, two := write(t, d, 1, b[:50]), write(t, d, 2, b[50:99])
	disk.Sync(d)
	d.Left = -1
	disk.Sync(d)
	d.Left = 2
	disk.Stop(d, 1)
	disk.Restart(d)
	if !same(d, before) || !same(api.Disk{Pending: spare}, beyond) || !bytes.Equal(b, bytesBefore) {
		t.Error("an argument was changed")
	}
	holds(t, "one", one, d.Sectors[0], full(b[:50]), d.Sectors[2])
	holds(t, "two", two, d.Sectors[0], noise(size, 2), full(b[50:99]))
}

// R6: results follow from the contents of the arguments, not from memory that they share.
func TestSharedMemory(t *testing.T) {
	b, c := noise(size, 1), noise(size, 2)
	d := api.Disk{Sectors: [][]byte{b, b, b}, Pending: []api.Write{{At: 1, Data: c}, {At: 0, Data: c}}, Left: 1}
	x, e := disk.Sync(d)
	is(t, "torn", x, e, api.Disk{Sectors: [][]byte{torn(c, b), c, b}, Stopped: true}, api.ErrDisk)
	holds(t, "before", d, c, c, b)
}
