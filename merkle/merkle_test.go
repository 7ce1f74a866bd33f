package merkle_test

import (
	"bytes"
	"crypto/sha256"
	"math"
	"slices"
	"testing"

	"fasti/api"
	"fasti/digest"
	"fasti/merkle"
)

// tagged is the digest of a text, by the SHA-256 of Go's library.
func tagged(tag string, parts ...[]byte) api.Digest {
	t := sha256.Sum256([]byte(tag))
	return sha256.Sum256(append(t[:], bytes.Join(parts, nil)...))
}

func leaf(b []byte) api.Digest { return tagged("leaf", b) }

func node(a, b api.Digest) api.Digest { return tagged("node", a[:], b[:]) }

// list returns n leaves that differ from each other, of up to 150 bytes; the first one is empty.
func list(n int) (l [][]byte) {
	for i := range n {
		b := bytes.Repeat([]byte{byte(i), byte(i >> 8), 'l'}, i%51)
		if i > 0 && len(b) == 0 {
			b = []byte{byte(i), byte(i >> 8)}
		}
		l = append(l, b)
	}
	return l
}

// digests returns n digests that differ from each other.
func digests(n int) (l []api.Digest) {
	for i := range n {
		l = append(l, sha256.Sum256([]byte{byte(i), byte(i >> 8), 'd'}))
	}
	return l
}

// first returns the greatest power of two less than n > 1.
func first(n int) int {
	k := 1
	for 2*k < n {
		k *= 2
	}
	return k
}

// root divides a list into two parts, as P7.4 says, instead of making its rows.
func root(l [][]byte) api.Digest {
	switch len(l) {
	case 0:
		return tagged("none")
	case 1:
		return leaf(l[0])
	}
	k := first(len(l))
	return node(root(l[:k]), root(l[k:]))
}

// path follows the parts of a list to the leaf i: what is beside a part is its other part.
func path(l [][]byte, i int) []api.Digest {
	if len(l) == 1 {
		return nil
	}
	k := first(len(l))
	if i < k {
		return append(path(l[:k], i), root(l[k:]))
	}
	return append(path(l[k:], i-k), root(l[:k]))
}

// climb follows the parts of n leaves to the leaf i. It reports whether the path has the right length.
func climb(n, i int, b []byte, path []api.Digest) (d api.Digest, fits bool) {
	if n == 1 {
		return leaf(b), len(path) == 0
	}
	if len(path) == 0 {
		return api.Digest{}, false
	}
	k, last := first(n), len(path)-1
	if i < k {
		d, fits = climb(k, i, b, path[:last])
		return node(d, path[last]), fits
	}
	d, fits = climb(n-k, i-k, b, path[:last])
	return node(path[last], d), fits
}

// outside are indices that no list of n leaves has.
func outside(n int) []int {
	return []int{-1, -2, n, n + 1, 2*n + 1, 1 << 32, -1 << 32, math.MinInt, math.MaxInt}
}

// P7.1
func TestRootSmall(t *testing.T) {
	l := [][]byte{[]byte("a"), nil, []byte("ccc"), []byte("d"), []byte("e"), []byte("a")}
	a, b, c, d, e := leaf(l[0]), leaf(l[1]), leaf(l[2]), leaf(l[3]), leaf(l[4])
	four := node(node(a, b), node(c, d))
	for n, want := range []api.Digest{
		tagged("none"),
		a,
		node(a, b),
		node(node(a, b), c),
		four,
		node(four, e),
		node(four, node(e, a)),
	} {
		if merkle.Root(l[:n]) != want {
			t.Error(n)
		}
	}
}

// P7.1
func TestRootEmpty(t *testing.T) {
	none := merkle.Root(nil)
	if none != merkle.Root([][]byte{}) || none != digest.Tagged("none", nil) {
		t.Error("no leaves")
	}
	empty := merkle.Root([][]byte{nil})
	if empty != merkle.Root([][]byte{{}}) || empty != digest.Tagged("leaf", nil) || empty == none {
		t.Error("an empty leaf")
	}
	if two := merkle.Root([][]byte{nil, nil}); two != node(empty, empty) || two != merkle.Root([][]byte{{}, nil}) {
		t.Error("two empty leaves")
	}
}

// P7.1: leaves do not run together, and their order, their number and each of their bytes count.
func TestRootDiffers(t *testing.T) {
	met := map[api.Digest]int{}
	for i, l := range [][]string{
		{}, {""}, {"", ""}, {"", "", ""}, {"", "", "", ""}, {"abc"}, {"ab", "c"}, {"a", "bc"}, {"c", "ab"}, {"abc", ""},
		{"", "abc"}, {"a", "b", "c"}, {"a", "c", "b"}, {"a", "b", "c", "c"}, {"a", "b", "c", ""}, {"abd"}, {"abb"}, {"\x00abc"},
		{"node"}, {"leaf"}, {"none"},
	} {
		var b [][]byte
		for _, s := range l {
			b = append(b, []byte(s))
		}
		d := merkle.Root(b)
		if at, found := met[d]; found {
			t.Error(at, i)
		}
		met[d] = i
	}
	a, b := leaf([]byte("a")), leaf([]byte("b"))
	inner := slices.Concat(a[:], b[:])
	if merkle.Root([][]byte{[]byte("a"), []byte("b")}) == merkle.Root([][]byte{inner}) {
		t.Error("a leaf is taken for two digests")
	}
}

// P7.1
func TestProveSmall(t *testing.T) {
	l := list(7)
	var d []api.Digest
	for _, b := range l {
		d = append(d, leaf(b))
	}
	ab, cd, ef := node(d[0], d[1]), node(d[2], d[3]), node(d[4], d[5])
	for _, x := range []struct {
		n, i int
		want []api.Digest
	}{
		{1, 0, nil},
		{2, 0, d[1:2]},
		{2, 1, d[:1]},
		{3, 0, []api.Digest{d[1], d[2]}},
		{3, 1, []api.Digest{d[0], d[2]}},
		{3, 2, []api.Digest{ab}},
		{4, 3, []api.Digest{d[2], ab}},
		{5, 0, []api.Digest{d[1], cd, d[4]}},
		{5, 3, []api.Digest{d[2], ab, d[4]}},
		{5, 4, []api.Digest{node(ab, cd)}},
		{6, 5, []api.Digest{d[4], node(ab, cd)}},
		{6, 1, []api.Digest{d[0], cd, ef}},
		{7, 5, []api.Digest{d[4], d[6], node(ab, cd)}},
		{7, 6, []api.Digest{ef, node(ab, cd)}},
	} {
		if got, e := merkle.Prove(l[:x.n], x.i); e != api.OK || !slices.Equal(got, x.want) {
			t.Error(x.n, x.i, len(got), e)
		}
	}
}

// P7.1
func TestProveInvalid(t *testing.T) {
	for n := range 6 {
		for _, i := range outside(n) {
			if got, e := merkle.Prove(list(n), i); e != api.ErrArg || len(got) != 0 {
				t.Error(n, i, len(got), e)
			}
		}
	}
	if got, e := merkle.Prove(nil, 0); e != api.ErrArg || len(got) != 0 {
		t.Error("no leaves", e)
	}
}

// P7.1: at the limit of leaves there is a root, and all paths; beyond it, no path, and what Root returns is open.
func TestMaxLeaves(t *testing.T) {
	l := make([][]byte, api.MaxLeaves+1)
	merkle.Root(l)
	for _, i := range append(outside(len(l)), 0, 1, len(l)-1) {
		if got, e := merkle.Prove(l, i); e != api.ErrArg || len(got) != 0 {
			t.Error(i, len(got), e)
		}
	}
	l = l[:api.MaxLeaves]
	same := leaf(nil)
	var want []api.Digest
	for range 16 {
		want, same = append(want, same), node(same, same)
	}
	if merkle.Root(l) != same {
		t.Error("root")
	}
	for _, i := range []int{0, 40000} {
		if got, e := merkle.Prove(l, i); e != api.OK || !slices.Equal(got, want) {
			t.Error(i, len(got), e)
		}
	}
}

// alike compares Root, and Prove and Climb of some leaves, with the recursive definitions.
func alike(t *testing.T, l [][]byte, leaves ...int) {
	t.Helper()
	want := root(l)
	if merkle.Root(l) != want {
		t.Error("Root:", len(l))
	}
	for _, i := range leaves {
		p, e := merkle.Prove(l, i)
		if e != api.OK || !slices.Equal(p, path(l, i)) || len(p) > 16 {
			t.Error("Prove:", len(l), i, len(p), e)
		}
		if got, e := merkle.Climb(len(l), i, l[i], p); e != api.OK || got != want {
			t.Error("Climb:", len(l), i, e)
		}
	}
}

// P7.1, P7.2, P7.3, P7.4: all leaves of all lists of at most 40 leaves.
func TestAlike(t *testing.T) {
	for n := range 41 {
		var all []int
		for i := range n {
			all = append(all, i)
		}
		alike(t, list(n), all...)
	}
}

// P7.1, P7.2, P7.3, P7.4: some leaves of long lists.
func TestAlikeLong(t *testing.T) {
	for _, n := range []int{512, 1000, 1025, 5000} {
		alike(t, list(n), 0, n/3, n-2, n-1)
	}
	alike(t, list(api.MaxLeaves-1), api.MaxLeaves-2)
	alike(t, list(api.MaxLeaves), api.MaxLeaves-1)
}

// P7.4: leaves of 32 bytes have the root and the paths of chapter 2, which divides lists in the same way.
func TestAsTree(t *testing.T) {
	for n := 1; n <= 20; n++ {
		l := digests(n)
		var b [][]byte
		for i := range l {
			b = append(b, l[i][:])
		}
		if merkle.Root(b) != digest.Tree(l) {
			t.Error(n)
		}
		for i := range l {
			p, _ := merkle.Prove(b, i)
			if q, e := digest.Path(l, i); e != api.OK || !slices.Equal(p, q) {
				t.Error(n, i, e)
			}
		}
	}
}

// P7.4
func TestParts(t *testing.T) {
	l := list(129)
	for k := 1; k <= 64; k *= 2 {
		for n := k + 1; n <= 2*k; n++ {
			if merkle.Root(l[:n]) != node(merkle.Root(l[:k]), merkle.Root(l[k:n])) {
				t.Error(k, n)
			}
		}
		if merkle.Root(l[:k+1]) != node(merkle.Root(l[:k]), leaf(l[k])) {
			t.Error("one more than", k)
		}
	}
}

// P7.2: a path of any digests leads somewhere if it has the right length, and nowhere otherwise.
func TestClimbLengths(t *testing.T) {
	some := digests(19)
	for n := 1; n <= 33; n++ {
		for i := range n {
			for k := range 9 {
				climbAlike(t, n, i, some[:k])
			}
		}
	}
	for _, n := range []int{4096, 32767, 32768, 32769, 40000, api.MaxLeaves - 1, api.MaxLeaves} {
		for _, i := range []int{0, 1, n / 3, first(n) - 1, first(n), n - 2, n - 1} {
			for k := range some {
				climbAlike(t, n, i, some[:k])
			}
		}
	}
}

func climbAlike(t *testing.T, n, i int, path []api.Digest) {
	t.Helper()
	b := []byte("leaf")
	want, fits := climb(n, i, b, path)
	d, e := merkle.Climb(n, i, b, path)
	if fits && (e != api.OK || d != want) || !fits && (e != api.ErrPath || d != (api.Digest{})) {
		t.Error(n, i, len(path), fits, e)
	}
	if fits && len(path) > 16 {
		t.Error("more than 16 digests:", n, i)
	}
}

// P7.2: with one leaf, the root is its digest; an empty leaf is nil as well.
func TestClimbOne(t *testing.T) {
	b := []byte("only")
	if d, e := merkle.Climb(1, 0, b, nil); e != api.OK || d != digest.Tagged("leaf", b) {
		t.Error(e)
	}
	d, e := merkle.Climb(1, 0, nil, nil)
	x, f := merkle.Climb(1, 0, []byte{}, []api.Digest{})
	if e != api.OK || f != api.OK || d != x || d != digest.Tagged("leaf", nil) {
		t.Error("an empty leaf", e, f)
	}
}

// P7.2: ErrArg comes before ErrPath, whatever the path is.
func TestClimbInvalid(t *testing.T) {
	for _, x := range []struct{ n, i int }{
		{0, 0}, {0, -1}, {-1, -1}, {-1, 0}, {-2, -1}, {math.MinInt, 0}, {math.MinInt, math.MinInt}, {math.MinInt, math.MaxInt},
		{1, -1}, {1, 1}, {2, 2}, {2, -1}, {3, 3}, {5, 5}, {5, -5}, {1, math.MinInt}, {1, math.MaxInt}, {5, 1 << 32},
		{api.MaxLeaves, api.MaxLeaves}, {api.MaxLeaves, -1},
		{api.MaxLeaves + 1, 0}, {api.MaxLeaves + 1, api.MaxLeaves}, {api.MaxLeaves + 1, -1}, {2 * api.MaxLeaves, 5},
		{1 << 32, 0}, {1<<32 + 2, 1}, {math.MaxInt, 0}, {math.MaxInt, math.MaxInt - 1}, {math.MaxInt, math.MaxInt},
	} {
		for k := range 65 {
			if d, e := merkle.Climb(x.n, x.i, []byte("a"), make([]api.Digest, k)); e != api.ErrArg || d != (api.Digest{}) {
				t.Error(x.n, x.i, k, e)
			}
		}
	}
}

// P7.2, P7.3: another leaf, another place and another path lead elsewhere.
func TestClimbElsewhere(t *testing.T) {
	for _, n := range []int{2, 3, 4, 7, 8, 13} {
		l := list(n)
		d := merkle.Root(l)
		for i := range l {
			p, _ := merkle.Prove(l, i)
			for k := range l {
				if got, e := merkle.Climb(n, i, l[k], p); (e == api.OK && got == d) != (k == i) {
					t.Error("leaf", n, i, k)
				}
				if got, e := merkle.Climb(n, k, l[i], p); (e == api.OK && got == d) != (k == i) {
					t.Error("place", n, i, k)
				}
			}
			for k := range p {
				p[k][31] ^= 1
				if got, e := merkle.Climb(n, i, l[i], p); e != api.OK || got == d {
					t.Error("path", n, i, k)
				}
				p[k][31] ^= 1
			}
		}
	}
}

// noCollision expects nothing of Collide, also if leaves and paths change places.
func noCollision(t *testing.T, what string, n, i int, a, b []byte, p, q []api.Digest) {
	t.Helper()
	if x, y, ok := merkle.Collide(n, i, a, b, p, q); ok || len(x) != 0 || len(y) != 0 {
		t.Error(what, n, i, len(x), len(y), ok)
	}
	if x, y, ok := merkle.Collide(n, i, b, a, q, p); ok || len(x) != 0 || len(y) != 0 {
		t.Error(what, "the other way", n, i, len(x), len(y), ok)
	}
}

// P7.2: with digest.Sum there is nothing to return.
func TestCollideNothing(t *testing.T) {
	a, b, some := []byte("a"), []byte("b"), digests(20)
	for n := 1; n <= 20; n++ {
		l := list(n)
		for i := range l {
			p, _ := merkle.Prove(l, i)
			other := append(slices.Clone(some[:len(p)]), some[19])
			noCollision(t, "different leaves", n, i, l[i], a, p, p)
			noCollision(t, "different leaves and paths", n, i, a, b, p, other[:len(p)])
			noCollision(t, "equal leaves", n, i, a, slices.Clone(a), p, p)
			noCollision(t, "no bytes", n, i, nil, []byte{}, p, p)
			noCollision(t, "equal leaves, different paths", n, i, a, a, p, other[:len(p)])
			noCollision(t, "a path that is too long", n, i, a, b, p, append(slices.Clone(p), some[0]))
			noCollision(t, "two paths that are too long", n, i, a, b, other, other)
			if len(p) > 0 {
				noCollision(t, "a path that is too short", n, i, a, b, p, p[1:])
				noCollision(t, "two paths that are too short", n, i, a, b, p[1:], p[1:])
				noCollision(t, "no path", n, i, a, b, nil, p)
			}
		}
		for _, i := range outside(n) {
			noCollision(t, "no leaf", n, i, a, b, some[:4], some[:4])
			noCollision(t, "no leaf, no paths", n, i, a, b, nil, nil)
		}
	}
	for _, n := range []int{0, -1, api.MaxLeaves + 1, math.MinInt, math.MaxInt} {
		noCollision(t, "no list", n, 0, a, b, nil, nil)
		noCollision(t, "no list, with paths", n, 0, a, b, some[:17], some[:17])
	}
}

// R2: arguments and earlier results stay as they are, though there is room behind them.
func TestPure(t *testing.T) {
	spare, others := list(20), digests(9)
	keptLeaves, keptDigests := list(20), digests(9)
	l := spare[:13]
	p, _ := merkle.Prove(l, 2)
	kept := slices.Clone(p)
	merkle.Root(l)
	merkle.Prove(l, 12)
	merkle.Climb(13, 2, l[2][:3], p)
	merkle.Climb(7, 6, l[2], others[:2])
	merkle.Collide(13, 2, l[2][:3], l[3], p, others[:4])
	merkle.Collide(5, 1, l[2], l[3], others[:3], others[:3])
	again, _ := merkle.Prove(l, 2)
	if !slices.EqualFunc(spare, keptLeaves, bytes.Equal) || !slices.Equal(others, keptDigests) {
		t.Error("an argument was changed")
	}
	if !slices.Equal(p, kept) || !slices.Equal(again, kept) {
		t.Error("a path was changed")
	}
}
