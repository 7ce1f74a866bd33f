package merkle

import (
	"bytes"
	"crypto/sha256"
	"math/rand"
	"slices"
	"testing"

	"fasti/api"
)

// Nobody can show what Collide returns for digest.Sum. These tests show it for a hash of a few values, under
// which two texts with one digest are soon found.

const values = 8

// weak is a hash with 8 values.
func weak(text []byte) (d api.Digest) {
	d[7] = sha256.Sum256(text)[0] % values
	return d
}

func digestOf(v int) (d api.Digest) {
	d[7] = byte(v)
	return d
}

// A crossing is a row of a way: its digest, and the text of which this is the hash.
type crossing struct {
	digest api.Digest
	text   []byte
}

func cross(tag string, parts ...[]byte) crossing {
	t := sha256.Sum256([]byte(tag))
	b := slices.Concat(t[:], bytes.Join(parts, nil))
	return crossing{weak(b), b}
}

// crossings returns the whole way of the leaf i of n leaves, row by row, also those in which it is left alone.
func crossings(n, i int, leaf []byte, path []api.Digest) []crossing {
	l := []crossing{cross("leaf", leaf)}
	for ; n > 1; n, i = n-n/2, i/2 {
		d := l[len(l)-1].digest
		switch {
		case i == n-1 && n%2 == 1:
			l = append(l, l[len(l)-1])
			continue
		case i%2 == 0:
			l = append(l, cross("node", d[:], path[0][:]))
		default:
			l = append(l, cross("node", path[0][:], d[:]))
		}
		path = path[1:]
	}
	return l
}

// noise returns up to 4 bytes by chance, and a path by chance for the leaf i of n leaves.
func noise(r *rand.Rand, n, i int) (leaf []byte, path []api.Digest) {
	leaf = make([]byte, r.Intn(5))
	r.Read(leaf)
	for range pathLen(n, i) {
		path = append(path, digestOf(r.Intn(values)))
	}
	return leaf, path
}

// collides compares collide with whole ways. It returns the row in which they meet, or -1.
func collides(t *testing.T, n, i int, a, b []byte, p, q []api.Digest) (row int) {
	t.Helper()
	v, w := crossings(n, i, a, p), crossings(n, i, b, q)
	last := len(v) - 1
	d, e := hash(weak).climb(n, i, a, p)
	if e != api.OK || d != v[last].digest {
		t.Fatal("climb:", n, i, e)
	}
	x, y, ok := hash(weak).collide(n, i, a, b, p, q)
	if bytes.Equal(a, b) || v[last].digest != w[last].digest {
		if ok || len(x) != 0 || len(y) != 0 {
			t.Fatal("one leaf, or two roots:", n, i, ok)
		}
		return -1
	}
	for v[row].digest != w[row].digest {
		row++
	}
	if !ok || !bytes.Equal(x, v[row].text) || !bytes.Equal(y, w[row].text) {
		t.Fatal("not the texts of the row", row, "of", n, i, ok)
	}
	if bytes.Equal(x, y) || weak(x) != weak(y) {
		t.Fatal("one text, or two digests:", n, i)
	}
	return row
}

// P7.2, P7.3, P7.4: whenever two leaves lead to one root, the first row in which the ways meet shows two different
// texts with one digest, with any paths and with equal ones, in each row in which they can meet.
func TestCollideWeak(t *testing.T) {
	r := rand.New(rand.NewSource(7))
	for n := 1; n <= 20; n++ {
		for i := range n {
			met := map[int]bool{}
			for k := range 200 {
				a, p := noise(r, n, i)
				b, q := noise(r, n, i)
				if k%2 == 0 {
					q = slices.Clone(p)
				}
				if row := collides(t, n, i, a, b, p, q); row >= 0 {
					met[row] = true
				}
			}
			if len(met) != 1+pathLen(n, i) {
				t.Error("the ways of", n, i, "met in", len(met), "rows")
			}
		}
	}
}

// P7.3: both leaves are in lists whose roots, of which one hash makes the others, are one.
func TestCollideLists(t *testing.T) {
	r := rand.New(rand.NewSource(73))
	const n = 7
	for i := range n {
		found := 0
		for range 200 {
			var l, m [][]byte
			for range n {
				a, _ := noise(r, 1, 0)
				b, _ := noise(r, 1, 0)
				l, m = append(l, a), append(m, b)
			}
			p, c := proved(l, i)
			q, d := proved(m, i)
			if row := collides(t, n, i, l[i], m[i], p, q); (row >= 0) != (c == d && !bytes.Equal(l[i], m[i])) {
				t.Fatal(i, row)
			} else if row >= 0 {
				found++
			}
		}
		if found == 0 {
			t.Error("no two lists with one root:", i)
		}
	}
}

// proved returns the path of a leaf, and the root, under the hash with a few values.
func proved(l [][]byte, i int) (path []api.Digest, root api.Digest) {
	var row []api.Digest
	for _, leaf := range l {
		row = append(row, cross("leaf", leaf).digest)
	}
	for ; len(row) > 1; i /= 2 {
		if i^1 < len(row) {
			path = append(path, row[i^1])
		}
		var next []api.Digest
		for pair := range slices.Chunk(row, 2) {
			if len(pair) == 2 {
				pair = []api.Digest{cross("node", pair[0][:], pair[1][:]).digest}
			}
			next = append(next, pair...)
		}
		row = next
	}
	return path, row[0]
}

// P7.2: leaves with one digest are texts with one digest, whatever the rows after them are.
func TestCollideFirst(t *testing.T) {
	a, b, _ := leaves(t)
	for _, n := range []int{1, 2, 5, 8} {
		for i := range n {
			path := make([]api.Digest, pathLen(n, i))
			x, y, ok := hash(weak).collide(n, i, a, b, path, path)
			if !ok || !bytes.Equal(x, cross("leaf", a).text) || !bytes.Equal(y, cross("leaf", b).text) {
				t.Error(n, i, ok)
			}
		}
	}
}

// P7.2: ways that are left alone in the first rows meet in the last one, or never.
func TestCollideAlone(t *testing.T) {
	a, _, b := leaves(t)
	c, d := cross("leaf", a).digest, cross("leaf", b).digest
	for u := range values {
		for v := range values {
			p, q := digestOf(u), digestOf(v)
			one, two := cross("node", p[:], c[:]), cross("node", q[:], d[:])
			x, y, ok := hash(weak).collide(5, 4, a, b, []api.Digest{p}, []api.Digest{q})
			switch {
			case ok != (one.digest == two.digest):
				t.Error(u, v, ok)
			case ok && (!bytes.Equal(x, one.text) || !bytes.Equal(y, two.text)):
				t.Error(u, v, "other texts")
			}
		}
	}
}

// P7.2: a path of another length shows nothing, also if the root of the other leaf is the zero digest.
func TestCollideError(t *testing.T) {
	a, b, _ := leaves(t)
	zero := false
	for v := range 10 * values {
		p := []api.Digest{{byte(v), 1}}
		d, _ := hash(weak).climb(2, 1, a, p)
		zero = zero || d == api.Digest{}
		for _, q := range [][]api.Digest{nil, {p[0], p[0]}} {
			x, y, ok := hash(weak).collide(2, 1, a, b, p, q)
			u, w, other := hash(weak).collide(2, 1, b, a, q, p)
			if ok || other || len(x)+len(y)+len(u)+len(w) > 0 {
				t.Error(v, len(q), ok, other)
			}
		}
	}
	if !zero {
		t.Error("no root is the zero digest")
	}
}

// leaves returns three leaves, of which the first two have one digest, and the last one another digest.
func leaves(t *testing.T) (a, b, c []byte) {
	t.Helper()
	a = []byte("a")
	for v := range 100 {
		l := []byte{'b', byte(v)}
		if cross("leaf", l).digest == cross("leaf", a).digest {
			b = l
		} else {
			c = l
		}
	}
	if b == nil || c == nil {
		t.Fatal("no such leaves")
	}
	return a, b, c
}
