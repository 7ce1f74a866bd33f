package disk

import (
	"slices"

	"fasti/api"
)

const (
	all        = -1    // Left of a disk that performs all writes
	maxLeft    = 65536 // the greatest Left
	maxPending = 4096  // writes that are not synced

	half = api.SectorSize / 2 // what a torn write changes
)

func valid(d api.Disk) bool {
	wrong := func(w api.Write) bool { return !has(d, w.At) || damaged(w.Data) }
	n := len(d.Sectors)
	return n >= 1 && n <= api.MaxDisk && !slices.ContainsFunc(d.Sectors, damaged) &&
		len(d.Pending) <= maxPending && !slices.ContainsFunc(d.Pending, wrong) &&
		d.Left >= all && d.Left <= maxLeft
}

func damaged(b []byte) bool { return len(b) != api.SectorSize }

// has reports whether a disk has a sector with this index.
func has(d api.Disk, at int) bool { return at >= 0 && at < len(d.Sectors) }

func runs(d api.Disk) bool { return valid(d) && !d.Stopped }

// sector returns a new sector of zero bytes, over which the parts are laid, each one
// from the first byte on, and the last one on top.
func sector(parts ...[]byte) []byte {
	b := make([]byte, api.SectorSize)
	for _, part := range parts {
		copy(b, part)
	}
	return b
}

// perform returns sectors as they are after some writes.
func perform(sectors [][]byte, l []api.Write) [][]byte {
	sectors = slices.Clone(sectors)
	for _, w := range l {
		sectors[w.At] = sector(sectors[w.At], w.Data)
	}
	return sectors
}

// halt returns a disk that stops in a sync: it performs the writes that are left, and tears the next one.
func halt(d api.Disk) api.Disk {
	torn := d.Pending[d.Left]
	torn.Data = torn.Data[:half]
	// The third index keeps append from writing the torn write into the argument.
	l := append(d.Pending[:d.Left:d.Left], torn)
	return api.Disk{Sectors: perform(d.Sectors, l), Stopped: true}
}
