package group_test

import (
	"bytes"
	"crypto/sha256"
	"math"
	"math/big"
	"math/rand"
	"testing"

	"fasti/api"
	"fasti/group"
)

// someNumbers returns numbers from 1 to Q: the least, the greatest, those around powers of 2, and some by chance.
func someNumbers(r *rand.Rand) (l []int) {
	for n := range 20000 {
		l = append(l, n+1, q-n, 1+r.Intn(q))
	}
	for k := 3; k < 30; k++ {
		l = append(l, 1<<k-1, 1<<k, 1<<k+1)
	}
	return l
}

// hashed is the definition of Hash, and whether the bit that counts as 0 was 1.
func hashed(tag string, b []byte) (n int, high bool) {
	first := sha256.Sum256([]byte(tag))
	d := sha256.Sum256(append(first[:], b...))
	x := new(big.Int).SetBytes(d[:8])
	high = x.Bit(63) == 1
	return reduced(x.SetBit(x, 63, 0), q), high
}

// P10.2
func TestElement(t *testing.T) {
	for _, x := range [][2]int{{1, 1}, {2, p - 2}, {3, 3}, {4, 4}, {5, 5}, {6, p - 6}, {8, p - 8}, {16, 16}, {q, q}, {536870895, 536870895}} {
		if y, e := group.Element(x[0]); e != api.OK || y != x[1] {
			t.Error(x, y, e)
		}
	}
	for _, n := range someNumbers(rand.New(rand.NewSource(11))) {
		want := n
		if !isElement(n) {
			want = p - n
		}
		if x, e := group.Element(n); e != api.OK || x != want || !isElement(x) {
			t.Error(n, x, e)
		}
	}
}

// P10.2: numbers beyond Q are refused, be they elements or not.
func TestElementErrors(t *testing.T) {
	l := []int{0, -1, -2, -4, q + 1, q + 2, q + 3, q + 4, p - 2, p - 1, p, p + 1, p + 4, 2 * q, 1<<32 + 4, 1 << 62, math.MaxInt, math.MinInt, math.MinInt + 1}
	for n := range 1000 {
		l = append(l, -n, q+1+n)
	}
	for _, n := range l {
		if x, e := group.Element(n); e != api.ErrArg || x != 0 {
			t.Error(n, x, e)
		}
	}
}

// P10.2
func TestNumber(t *testing.T) {
	for _, x := range [][2]int{{1, 1}, {p - 2, 2}, {3, 3}, {4, 4}, {p - 6, 6}, {p - 8, 8}, {q, q}, {536870895, 536870895}} {
		if n, e := group.Number(x[0]); e != api.OK || n != x[1] {
			t.Error(x, n, e)
		}
	}
	for _, n := range someNumbers(rand.New(rand.NewSource(12))) {
		for _, x := range []int{n, p - n} {
			y, e := group.Number(x)
			if isElement(x) && (e != api.OK || y != n) || !isElement(x) && (e != api.ErrGroup || y != 0) {
				t.Error(x, y, e)
			}
		}
	}
	for _, x := range strangers() {
		if n, e := group.Number(x); e != api.ErrGroup || n != 0 {
			t.Error("a stranger", x, n, e)
		}
	}
}

// P10.5
func TestInverseToEachOther(t *testing.T) {
	r := rand.New(rand.NewSource(13))
	for _, n := range someNumbers(r) {
		x, e := group.Element(n)
		if m, f := group.Number(x); m != n || e != api.OK || f != api.OK {
			t.Error(n, x, m, e, f)
		}
	}
	for _, x := range elements(r, 20000) {
		n, e := group.Number(x)
		if y, f := group.Element(n); y != x || n < 1 || n > q || e != api.OK || f != api.OK {
			t.Error(x, n, y, e, f)
		}
	}
}

// P10.3: numbers that another implementation of SHA-256 found.
func TestHash(t *testing.T) {
	for _, x := range []struct {
		tag  string
		b    []byte
		want int
	}{
		{"", nil, 420901304}, {"", []byte{}, 420901304}, {"sign", nil, 327370530}, {"sign", []byte("abc"), 533714890}, {"nonce", []byte("abc"), 716301281},
		{"signa", []byte("bc"), 1031010671}, {"tag", []byte{0}, 436164485}, {"tag", []byte{0, 0}, 182560825}, {"tag", make([]byte, 1000), 196982427}, {"é", []byte{255, 128}, 581630089},
	} {
		if n := group.Hash(x.tag, x.b); n != x.want {
			t.Error(x.tag, x.b, n)
		}
	}
}

// P10.3: texts of any length, with digests whose highest bit is 0, and 1.
func TestHashOfAny(t *testing.T) {
	r := rand.New(rand.NewSource(14))
	bits := map[bool]int{}
	for n := range 3000 {
		b, tag := make([]byte, r.Intn(300)), make([]byte, n%70)
		r.Read(b)
		r.Read(tag)
		want, high := hashed(string(tag), b)
		bits[high]++
		if x := group.Hash(string(tag), b); x != want || x < 0 || x >= q {
			t.Error(tag, b, x)
		}
	}
	if bits[false] < 1000 || bits[true] < 1000 {
		t.Error(bits)
	}
}

// R2: Hash does not change what it is given, or what lies behind it.
func TestPure(t *testing.T) {
	b := []byte("some bytes, and others")
	before := bytes.Clone(b)
	first := group.Hash("tag", b[:5])
	for range 3 {
		if group.Hash("tag", b[:5]) != first {
			t.Error("equal calls")
		}
	}
	if !bytes.Equal(b, before) {
		t.Error("the argument was changed")
	}
}
