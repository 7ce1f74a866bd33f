package digest_test

import (
	"bytes"
	"crypto/sha256"
	"encoding/hex"
	"math"
	"math/bits"
	"slices"
	"strings"
	"testing"

	"fasti/api"
	"fasti/digest"
)

// noise returns n bytes that follow from seed and look like no pattern.
func noise(n int, seed uint32) []byte {
	b := make([]byte, n)
	for i := range b {
		seed = seed*1664525 + 1013904223
		b[i] = byte(seed >> 24)
	}
	return b
}

// list returns n digests that differ from each other.
func list(n int) []api.Digest {
	l := make([]api.Digest, n)
	for i := range l {
		l[i] = sha256.Sum256(noise(4, uint32(i)))
	}
	return l
}

// tagged is what Tagged has to return, by the SHA-256 of Go's library.
func tagged(tag string, parts ...[]byte) api.Digest {
	t := sha256.Sum256([]byte(tag))
	return sha256.Sum256(append(t[:], bytes.Join(parts, nil)...))
}

func leaf(d api.Digest) api.Digest { return tagged("leaf", d[:]) }

func node(a, b api.Digest) api.Digest { return tagged("node", a[:], b[:]) }

// level joins neighbours in a list of digests; a last one without a neighbour stays.
func level(l []api.Digest) (next []api.Digest) {
	for i := 0; i < len(l); i += 2 {
		if i+1 < len(l) {
			next = append(next, node(l[i], l[i+1]))
		} else {
			next = append(next, l[i])
		}
	}
	return next
}

// grow builds the tree of a list from below, level by level, and not by its two parts as the document does.
// It returns the digest of the list, and the path of the element with the index at.
func grow(l []api.Digest, at int) (root api.Digest, path []api.Digest) {
	if len(l) == 0 {
		return tagged("empty"), nil
	}
	var now []api.Digest
	for _, d := range l {
		now = append(now, leaf(d))
	}
	for ; len(now) > 1; now, at = level(now), at/2 {
		if beside := at ^ 1; beside < len(now) {
			path = append(path, now[beside])
		}
	}
	return now[0], path
}

// walk climbs by the bits of the index and of the last index, from below. It reports
// whether the path has the right length.
func walk(d api.Digest, at, n int, path []api.Digest) (root api.Digest, fits bool) {
	last := n - 1
	root = leaf(d)
	for last > 0 {
		// An element without a neighbour moves up a level for nothing.
		if at%2 == 1 || at < last {
			if len(path) == 0 {
				return api.Digest{}, false
			}
			if at%2 == 1 {
				root = node(path[0], root)
			} else {
				root = node(root, path[0])
			}
			path = path[1:]
		}
		at, last = at/2, last/2
	}
	return root, len(path) == 0
}

// P2.1
func TestSumKnown(t *testing.T) {
	for _, x := range []struct {
		b    string
		want string
	}{
		{"", "e3b0c44298fc1c149afbf4c8996fb92427ae41e4649b934ca495991b7852b855"},
		{"abc", "ba7816bf8f01cfea414140de5dae2223b00361a396177a9cb410ff61f20015ad"},
		{"abcdbcdecdefdefgefghfghighijhijkijkljklmklmnlmnomnopnopq", "248d6a61d20638b8e5c026930c3e6039a33ce45964ff2167f6ecedd419db06c1"},
		{strings.Repeat("a", 1000000), "cdc76e5c9914fb9281a1c7e284d73e67f1809a48a497200e046d39ccc7112cd0"},
	} {
		d := digest.Sum([]byte(x.b))
		if got := hex.EncodeToString(d[:]); got != x.want {
			t.Errorf("%d bytes: %s", len(x.b), got)
		}
	}
	if digest.Sum(nil) != digest.Sum([]byte{}) {
		t.Error("nil and no bytes")
	}
}

// P2.1: every length around several blocks, and lengths whose number of bits takes one to five bytes.
func TestSumLengths(t *testing.T) {
	for n := range 400 {
		b := noise(n, 7)
		if digest.Sum(b) != sha256.Sum256(b) {
			t.Error(n)
		}
	}
	for _, n := range []int{1<<13 - 1, 1 << 13, 1<<13 + 55, 1<<13 + 56, 1<<21 + 3, 1 << 21} {
		b := noise(n, 9)
		if digest.Sum(b) != sha256.Sum256(b) {
			t.Error(n)
		}
	}
	for _, v := range []byte{0, 1, 128, 255} {
		b := bytes.Repeat([]byte{v}, 1000)
		if digest.Sum(b) != sha256.Sum256(b) {
			t.Error(v)
		}
	}
}

// P2.1: the number of bits has more than 32 bits.
func TestSumLong(t *testing.T) {
	if testing.Short() {
		t.Skip("takes some seconds")
	}
	b := make([]byte, 1<<29+3)
	if digest.Sum(b) != sha256.Sum256(b) {
		t.Error("half a gigabyte")
	}
}

// P2.1: each bit of the bytes counts.
func TestSumBits(t *testing.T) {
	b := noise(130, 3)
	met := map[api.Digest]bool{digest.Sum(b): true}
	for i := range 8 * len(b) {
		b[i/8] ^= 1 << (i % 8)
		d := digest.Sum(b)
		if met[d] || d != sha256.Sum256(b) {
			t.Fatal(i)
		}
		met[d] = true
		b[i/8] ^= 1 << (i % 8)
	}
}

// P2.1
func TestTagged(t *testing.T) {
	tags := []string{"", "x", "leaf", "node", "\x00", "\xff\xfe", "é", string(noise(55, 1)), string(noise(56, 2)), string(noise(64, 3)), string(noise(1000, 4))}
	met := map[api.Digest]bool{}
	for _, tag := range tags {
		for _, n := range []int{0, 1, 23, 24, 31, 32, 33, 64, 96, 1000} {
			b := noise(n, 5)
			d := digest.Tagged(tag, b)
			if d != tagged(tag, b) || met[d] {
				t.Errorf("%q, %d bytes", tag, n)
			}
			met[d] = true
		}
	}
	none := digest.Sum(nil)
	if d := digest.Tagged("", nil); d != digest.Sum(none[:]) || d != digest.Tagged("", []byte{}) {
		t.Error("the empty tag and no bytes")
	}
	if digest.Tagged("ab", []byte("c")) == digest.Tagged("a", []byte("bc")) {
		t.Error("tag and bytes run together")
	}
}

// P2.2
func TestTreeSmall(t *testing.T) {
	l := list(7)
	two := node(leaf(l[0]), leaf(l[1]))
	four := node(two, node(leaf(l[2]), leaf(l[3])))
	for n, want := range []api.Digest{
		tagged("empty"),
		leaf(l[0]),
		two,
		node(two, leaf(l[2])),
		four,
		node(four, leaf(l[4])),
		node(four, node(leaf(l[4]), leaf(l[5]))),
		node(four, node(node(leaf(l[4]), leaf(l[5])), leaf(l[6]))),
	} {
		if digest.Tree(l[:n]) != want {
			t.Error(n)
		}
	}
	if digest.Tree(nil) != digest.Tree([]api.Digest{}) {
		t.Error("nil and no elements")
	}
	if digest.Tree([]api.Digest{{}}) == digest.Tree(nil) || digest.Tree([]api.Digest{{}, {}}) == digest.Tree([]api.Digest{{}}) {
		t.Error("zero digests do not count")
	}
}

// P2.2
func TestPathSmall(t *testing.T) {
	l := list(5)
	a, b, c, d, e := leaf(l[0]), leaf(l[1]), leaf(l[2]), leaf(l[3]), leaf(l[4])
	for _, x := range []struct {
		n, at int
		want  []api.Digest
	}{
		{1, 0, nil},
		{2, 0, []api.Digest{b}},
		{2, 1, []api.Digest{a}},
		{3, 0, []api.Digest{b, c}},
		{3, 1, []api.Digest{a, c}},
		{3, 2, []api.Digest{node(a, b)}},
		{4, 3, []api.Digest{c, node(a, b)}},
		{5, 0, []api.Digest{b, node(c, d), e}},
		{5, 2, []api.Digest{d, node(a, b), e}},
		{5, 4, []api.Digest{node(node(a, b), node(c, d))}},
	} {
		if path, f := digest.Path(l[:x.n], x.at); f != api.OK || !slices.Equal(path, x.want) {
			t.Error(x.n, x.at, len(path), f)
		}
	}
}

// P2.2, P2.4: the elements of all lists of at most 70 elements.
func TestTreePathClimb(t *testing.T) {
	for n := range 71 {
		l := list(n)
		root, _ := grow(l, 0)
		if digest.Tree(l) != root {
			t.Error("Tree:", n)
		}
		for at, d := range l {
			_, want := grow(l, at)
			path, e := digest.Path(l, at)
			if e != api.OK || !slices.Equal(path, want) {
				t.Error("Path:", n, at, e)
			}
			if got, e := digest.Climb(d, at, n, path); e != api.OK || got != root {
				t.Error("Climb:", n, at, e)
			}
		}
	}
}

// P2.2, P2.4: some elements of long lists, as long as the limits of later layers.
func TestTreeLong(t *testing.T) {
	for _, n := range []int{1000, 1023, 1024, 1025, api.MaxLeaves - 1, api.MaxLeaves} {
		l := list(n)
		root := digest.Tree(l)
		for _, at := range []int{0, n / 3, n - 1} {
			grown, want := grow(l, at)
			path, e := digest.Path(l, at)
			if e != api.OK || !slices.Equal(path, want) {
				t.Error("Path:", n, at, e)
			}
			if got, e := digest.Climb(l[at], at, n, path); e != api.OK || got != root || got != grown {
				t.Error("Climb:", n, at, e)
			}
		}
	}
}

// P2.2
func TestPathInvalid(t *testing.T) {
	for n := range 6 {
		for _, at := range []int{-1, n, n + 1, math.MinInt, math.MaxInt} {
			if path, e := digest.Path(list(n), at); e != api.ErrArg || len(path) != 0 {
				t.Error(n, at, len(path), e)
			}
		}
	}
	if path, e := digest.Path(nil, 0); e != api.ErrArg || len(path) != 0 {
		t.Error("no elements", e)
	}
}

// P2.2
func TestClimbInvalid(t *testing.T) {
	d := list(1)[0]
	for _, x := range []struct{ at, n, path int }{
		{0, 0, 0}, {-1, 0, 0}, {0, -1, 0}, {-1, -1, 0}, {-2, -1, 0}, {0, math.MinInt, 0}, {math.MinInt, math.MinInt, 0},
		{-1, 1, 0}, {1, 1, 0}, {2, 1, 0}, {math.MinInt, 1, 0}, {math.MaxInt, 1, 0},
		{0, 1, 1}, {0, 1, 2},
		{0, 2, 0}, {1, 2, 0}, {0, 2, 2}, {1, 2, 2}, {-1, 2, 1}, {2, 2, 1},
		{0, 3, 1}, {1, 3, 1}, {2, 3, 2}, {2, 3, 0}, {0, 3, 3}, {3, 3, 1}, {3, 3, 2},
		{4, 5, 3}, {4, 5, 2}, {4, 5, 0}, {5, 5, 1},
		{0, 1 << 40, 39}, {0, 1 << 40, 41}, {1 << 40, 1 << 40, 40}, {-1, 1 << 40, 40},
		{0, 1<<40 + 1, 41}, {1 << 40, 1<<40 + 1, 1}, {0, 1<<40 + 1, 40}, {0, 1 << 41, 41}, {0, 1 << 62, 62},
		{0, math.MaxInt, 63}, {math.MaxInt - 1, math.MaxInt, 63}, {math.MaxInt - 1, math.MaxInt, 62},
	} {
		root, e := digest.Climb(d, x.at, x.n, make([]api.Digest, x.path))
		if e != api.ErrArg || root != (api.Digest{}) {
			t.Error(x.at, x.n, x.path, e)
		}
	}
}

// P2.2: a path of any digests leads somewhere if it has the right length, and nowhere otherwise.
func TestClimbLengths(t *testing.T) {
	d := list(1)[0]
	some := list(42)
	for n := 1; n <= 33; n++ {
		for at := range n {
			for k := range 9 {
				climbAlike(t, d, at, n, some[:k])
			}
		}
	}
	for _, n := range []int{1<<31 - 1, 1 << 31, 1 << 32, 1<<32 + 1, 1<<39 + 1, 3 << 38, 1<<40 - 1, 1 << 40} {
		for _, at := range []int{0, 1, n / 3, n / 2, 1<<(bits.Len(uint(n))-1) - 1, n - 2, n - 1} {
			for k := range len(some) + 1 {
				climbAlike(t, d, at, n, some[:k])
			}
		}
	}
}

func climbAlike(t *testing.T, d api.Digest, at, n int, path []api.Digest) {
	t.Helper()
	want, fits := walk(d, at, n, path)
	root, e := digest.Climb(d, at, n, path)
	if fits && (e != api.OK || root != want) || !fits && (e != api.ErrArg || root != (api.Digest{})) {
		t.Error(at, n, len(path), fits, e)
	}
	if fits && len(path) > 40 {
		t.Error("more than 40 elements:", at, n)
	}
}

// P2.2: another element, another place and another path lead elsewhere.
func TestClimbElsewhere(t *testing.T) {
	for _, n := range []int{2, 3, 4, 7, 8, 13} {
		l := list(n)
		root := digest.Tree(l)
		for at := range l {
			path, _ := digest.Path(l, at)
			for i, d := range l {
				if got, e := digest.Climb(d, at, n, path); (e == api.OK && got == root) != (i == at) {
					t.Error("element", n, at, i)
				}
				if got, e := digest.Climb(l[at], i, n, path); (e == api.OK && got == root) != (i == at) {
					t.Error("place", n, at, i)
				}
			}
			for i := range path {
				path[i][31] ^= 1
				if got, e := digest.Climb(l[at], at, n, path); e != api.OK || got == root {
					t.Error("path", n, at, i)
				}
				path[i][31] ^= 1
			}
		}
	}
}

// P2.3
func TestChain(t *testing.T) {
	var end api.Digest
	if digest.Chain(end, end) != tagged("chain", make([]byte, 64)) {
		t.Error("zero digests")
	}
	for i, d := range list(20) {
		next := digest.Chain(end, d)
		if next != tagged("chain", end[:], d[:]) || next == digest.Chain(d, end) {
			t.Error(i)
		}
		end = next
	}
}

// P2.3: a chain depends on the beginning, on each element and on the order.
func TestChainOfList(t *testing.T) {
	chain := func(end api.Digest, l ...api.Digest) api.Digest {
		for _, d := range l {
			end = digest.Chain(end, d)
		}
		return end
	}
	l := list(4)
	a, b, c, start := l[0], l[1], l[2], l[3]
	met := map[api.Digest]bool{}
	for _, d := range []api.Digest{
		chain(start), chain(start, a), chain(start, a, b), chain(start, a, b, c), chain(start, b, a, c),
		chain(start, a, c, b), chain(start, a, b, a), chain(api.Digest{}, a, b, c), chain(a, b, c),
	} {
		if met[d] {
			t.Error("two chains have one end")
		}
		met[d] = true
	}
}

// P2.4: the digest of a list is that of a node of its two parts.
func TestParts(t *testing.T) {
	l := list(300)
	for k := 1; k <= 128; k *= 2 {
		for n := k + 1; n <= 2*k; n++ {
			if digest.Tree(l[:n]) != node(digest.Tree(l[:k]), digest.Tree(l[k:n])) {
				t.Error(k, n)
			}
		}
		if digest.Tree(l[:k+1]) != node(digest.Tree(l[:k]), leaf(l[k])) {
			t.Error("one more than", k)
		}
	}
}

// R2: arguments and earlier results stay as they are, though there is room behind them.
func TestPure(t *testing.T) {
	b := noise(300, 1)
	l := list(20)
	keptBytes, keptList := slices.Clone(b), slices.Clone(l)
	digest.Sum(b[:100])
	digest.Tagged("x", b[:10])
	digest.Tree(l[:13])
	path, _ := digest.Path(l[:13], 2)
	kept := slices.Clone(path)
	digest.Climb(l[2], 2, 13, path)
	digest.Climb(l[3], 3, 7, path[:3])
	again, _ := digest.Path(l[:13], 2)
	digest.Path(l[:13], 3)
	digest.Chain(l[0], l[1])
	if !slices.Equal(b, keptBytes) || !slices.Equal(l, keptList) {
		t.Error("an argument was changed")
	}
	if !slices.Equal(path, kept) || !slices.Equal(again, kept) {
		t.Error("a path was changed")
	}
}
