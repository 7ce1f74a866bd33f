package merkle

import (
	"iter"

	"fasti/api"
	"fasti/digest"
)

// isLeaf reports whether i is the index of one of n leaves, which are not too many.
func isLeaf(n, i int) bool { return n <= api.MaxLeaves && i >= 0 && i < n }

// steps yields, for each row of n leaves but the last one, the place of the way of the leaf i,
// and whether the digest at this place is left alone.
func steps(n, i int) iter.Seq2[int, bool] {
	return func(yield func(place int, alone bool) bool) {
		for width, place := n, i; width > 1; width, place = (width+1)/2, place/2 {
			if !yield(place, beside(place) >= width) {
				return
			}
		}
	}
}

// beside returns the other one of the first two, or of the next two, places to which a place belongs.
func beside(place int) int { return place ^ 1 }

// pathLen returns the length of the path of the leaf i of n leaves.
func pathLen(n, i int) (k int) {
	for _, alone := range steps(n, i) {
		if !alone {
			k++
		}
	}
	return k
}

func firstRow(l [][]byte) []api.Digest {
	row := make([]api.Digest, len(l))
	for i, leaf := range l {
		row[i] = digest.Sum(text("leaf", leaf))
	}
	return row
}

// nextRow returns the row after one with more than one digest.
func nextRow(row []api.Digest) []api.Digest {
	next := make([]api.Digest, 0, (len(row)+1)/2)
	for ; len(row) > 1; row = row[2:] {
		next = append(next, digest.Sum(text("node", row[0][:], row[1][:])))
	}
	return append(next, row...)
}

// text returns what is hashed for these parts under a tag.
func text(tag string, parts ...[]byte) []byte {
	d := digest.Sum([]byte(tag))
	b := d[:]
	for _, part := range parts {
		b = append(b, part...)
	}
	return b
}
