package journal

import (
	"iter"

	"fasti/api"
	"fasti/disk"
)

// sectorsOf returns how many sectors a record occupies. One without bytes occupies one, too, which says that it is there.
func sectorsOf(b []byte) int { return max(1, (len(b)+pieceSize-1)/pieceSize) }

// occupied returns how many sectors records occupy.
func occupied(l [][]byte) (n int) {
	for _, b := range l {
		n += sectorsOf(b)
	}
	return n
}

// free returns how many sectors are left for further records.
func free(j api.Journal) int { return j.Many - occupied(j.Records) }

// pieces returns a record as the pieces that are written to its sectors.
func pieces(b []byte, generation uint32) []piece {
	l := make([]piece, sectorsOf(b))
	for i := range l {
		end := min((i+1)*pieceSize, len(b))
		l[i] = piece{generation: generation, data: b[i*pieceSize : end]}
	}
	l[0].marks |= begins
	l[len(l)-1].marks |= ends
	return l
}

// write writes records to the sectors from at on.
func write(d api.Disk, at int, l [][]byte, generation uint32) (x api.Disk, e api.Errno) {
	for _, b := range l {
		for _, p := range pieces(b, generation) {
			s := p.sector(at)
			if d, e = disk.Write(d, at, s[:]); e != api.OK {
				return api.Disk{}, e
			}
			at++
		}
	}
	return d, api.OK
}

// records yields the records on the sectors of a disk.
func records(sectors [][]byte) iter.Seq[[]byte] {
	return func(yield func(b []byte) bool) {
		least := uint32(0)
		for at := 0; at < len(sectors); {
			b, generation, n := record(sectors, at)
			if n == 0 || generation < least || !yield(b) {
				return
			}
			at, least = at+n, generation
		}
	}
}

// record returns the record that begins at a sector, with its generation and the number of its sectors,
// which is 0 if no whole record begins there.
func record(sectors [][]byte, at int) (b []byte, generation uint32, n int) {
	var last piece
reading:
	for k := at; k < len(sectors); k++ {
		p, good := read(sectors[k], k)
		switch {
		case !good, k == at && !p.begins(), k > at && !p.continues(last):
			break reading
		case p.ends():
			return append(b, p.data...), p.generation, k + 1 - at
		}
		b, last = append(b, p.data...), p
	}
	return nil, 0, 0
}
