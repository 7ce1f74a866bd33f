package digest

import (
	"math/bits"
	"slices"

	"fasti/api"
)

// maxClimb is the greatest number of elements of a list whose digest Climb returns.
const maxClimb = 1 << 40

func leaf(d api.Digest) api.Digest { return Tagged("leaf", d[:]) }

func node(a, b api.Digest) api.Digest { return pair("node", a, b) }

func pair(tag string, a, b api.Digest) api.Digest { return Tagged(tag, slices.Concat(a[:], b[:])) }

// first returns how many of n > 1 elements are in the first part: the greatest power of 2 less than n.
func first(n int) int { return 1 << (bits.Len(uint(n-1)) - 1) }

// pathOf returns the path of the element with the index at, which is in the list.
func pathOf(l []api.Digest, at int) []api.Digest {
	if len(l) == 1 {
		return nil
	}
	k := first(len(l))
	if at < k {
		return append(pathOf(l[:k], at), Tree(l[k:]))
	}
	return append(pathOf(l[k:], at-k), Tree(l[:k]))
}

// pathLen returns the length of the path of the element with the index at in a list of n elements.
func pathLen(at, n int) (steps int) {
	for ; n > 1; steps++ {
		if k := first(n); at < k {
			n = k
		} else {
			at, n = at-k, n-k
		}
	}
	return steps
}

// climb goes down to the element first, since the end of the path belongs to the whole list.
func climb(d api.Digest, at, n int, path []api.Digest) api.Digest {
	if n == 1 {
		return leaf(d)
	}
	k, last := first(n), len(path)-1
	if at < k {
		return node(climb(d, at, k, path[:last]), path[last])
	}
	return node(path[last], climb(d, at-k, n-k, path[:last]))
}
