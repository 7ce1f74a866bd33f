package merkle

import (
	"bytes"

	"fasti/api"
)

// A hash is what digests of texts are made with. It is digest.Sum, except in tests that need two texts
// with one digest, which nobody can find for digest.Sum.
type hash func(text []byte) api.Digest

// climb does what Climb promises, with any hash.
func (h hash) climb(n, i int, leaf []byte, path []api.Digest) (d api.Digest, e api.Errno) {
	switch {
	case !isLeaf(n, i):
		return api.Digest{}, api.ErrArg
	case len(path) != pathLen(n, i):
		return api.Digest{}, api.ErrPath
	}
	d = h(text("leaf", leaf))
	for place, alone := range steps(n, i) {
		if alone {
			continue
		}
		d, path = h(joined(place, d, path[0])), path[1:]
	}
	return d, api.OK
}

// collide does what Collide promises, with any hash.
func (h hash) collide(n, i int, a, b []byte, p, q []api.Digest) (x, y []byte, ok bool) {
	c, e := h.climb(n, i, a, p)
	d, f := h.climb(n, i, b, q)
	if e != api.OK || f != api.OK || c != d || bytes.Equal(a, b) {
		return nil, nil, false
	}
	x, y = h.meet(n, i, a, b, p, q)
	return x, y, true
}

// meet returns the texts at which two ways to one root meet. As long as the digests of the ways differ, their
// texts in the next row do; and where they are left alone they go on differing, so that they never meet there.
func (h hash) meet(n, i int, a, b []byte, p, q []api.Digest) (x, y []byte) {
	x, y = text("leaf", a), text("leaf", b)
	c, d := h(x), h(y)
rows:
	for place, alone := range steps(n, i) {
		switch {
		case c == d:
			break rows
		case alone:
			continue rows
		}
		x, y = joined(place, c, p[0]), joined(place, d, q[0])
		c, d, p, q = h(x), h(y), p[1:], q[1:]
	}
	return x, y
}

// joined returns the text of the digest at a place and of the one beside it.
func joined(place int, d, other api.Digest) []byte {
	if place < beside(place) {
		return text("node", d[:], other[:])
	}
	return text("node", other[:], d[:])
}
