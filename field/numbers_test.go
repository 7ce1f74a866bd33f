package field_test

import (
	"math"
	"math/big"
	"math/rand"
	"testing"

	"fasti/api"
	"fasti/field"
)

const q = api.Q

// integers of any size are the reference for all calculations.
func whole(n int) *big.Int { return big.NewInt(int64(n)) }

// reduced is the number of the field for which an integer stands.
func reduced(n *big.Int) int { return int(new(big.Int).Mod(n, whole(q)).Int64()) }

func added(a, b int) int { return reduced(new(big.Int).Add(whole(a), whole(b))) }

func multiplied(a, b int) int { return reduced(new(big.Int).Mul(whole(a), whole(b))) }

// edges are integers at which calculations with numbers of 32 or 64 bits, or of the field, may go wrong.
func edges() (l []int) {
	const most = math.MaxInt / q // the multiples of Q go from -most to most
	for _, n := range []int{0, 1 << 29, 1 << 30, 1 << 31, 1 << 32, 1 << 40, 1 << 60, 1 << 62, q / 2, q, 2 * q, 3 * q, q * q, 4 * q * q, most * q} {
		for d := -2; d <= 2; d++ {
			l = append(l, n+d, -n+d)
		}
	}
	return append(l, math.MaxInt, math.MaxInt-1, math.MinInt, math.MinInt+1, 1000, 123456789, -987654321)
}

// some returns n integers by chance, small ones and large ones, of the field and beyond it.
func some(r *rand.Rand, n int) (l []int) {
	for range n {
		x := int(r.Uint64())
		switch r.Intn(4) {
		case 0:
			x %= q
		case 1:
			x %= 10
		case 2:
			x = x % 5 * q
		}
		l = append(l, x)
	}
	return l
}

// P9.1
func TestMod(t *testing.T) {
	for _, n := range append(edges(), some(rand.New(rand.NewSource(1)), 10000)...) {
		if x := field.Mod(n); x != reduced(whole(n)) {
			t.Error(n, x)
		}
	}
	for _, x := range [][2]int{{-1, q - 1}, {0, 0}, {q, 0}, {-q, 0}, {q - 1, q - 1}, {q + 1, 1}, {1 - q, 1}, {math.MaxInt / q * q, 0}, {-math.MaxInt / q * q, 0}} {
		if field.Mod(x[0]) != x[1] {
			t.Error(x, field.Mod(x[0]))
		}
	}
}

// P9.1: sums and products of each two edges, and of pairs by chance.
func TestAddAndMul(t *testing.T) {
	if field.Mul(-1, -1) != 1 || field.Add(-1, 1) != 0 || field.Add(q-1, 1) != 0 || field.Mul(2, 536870895) != 1 {
		t.Error("small numbers")
	}
	examine := func(a, b int) {
		if x := field.Add(a, b); x != added(a, b) {
			t.Error("sum", a, b, x)
		}
		if x := field.Mul(a, b); x != multiplied(a, b) {
			t.Error("product", a, b, x)
		}
	}
	for _, a := range edges() {
		for _, b := range edges() {
			examine(a, b)
		}
	}
	r := rand.New(rand.NewSource(2))
	for range 10000 {
		l := some(r, 2)
		examine(l[0], l[1])
	}
}

// P9.1: inverses are numbers of the field; the only ones that Go's library finds, too.
func TestInverse(t *testing.T) {
	if x, e := field.Inverse(2); e != api.OK || x != 536870895 {
		t.Error(x, e)
	}
	l := append(edges(), some(rand.New(rand.NewSource(3)), 5000)...)
	for n := range 2000 {
		l = append(l, n, -n, q-n, q+n)
	}
	for _, n := range l {
		want := new(big.Int).ModInverse(whole(reduced(whole(n))), whole(q))
		x, e := field.Inverse(n)
		switch {
		case want == nil && (e != api.ErrField || x != 0):
			t.Error("of 0", n, x, e)
		case want != nil && (e != api.OK || x != int(want.Int64())):
			t.Error(n, x, e, want)
		}
	}
}

// P9.1: what stands for 0 has no inverse.
func TestInverseOfNothing(t *testing.T) {
	for _, k := range []int{0, 1, -1, 2, -2, 3, 1000, q, -q, 1 << 32, math.MaxInt / q, -(math.MaxInt / q)} {
		if x, e := field.Inverse(k * q); e != api.ErrField || x != 0 {
			t.Error(k, x, e)
		}
	}
}

// P9.3: order and brackets do not matter, and products of sums are sums of products.
func TestLaws(t *testing.T) {
	r := rand.New(rand.NewSource(4))
	l := append([]int{0, 1, -1, 2, q - 1, q, q + 1, math.MinInt, math.MaxInt}, some(r, 9)...)
	for _, a := range l {
		if field.Add(a, 0) != field.Mod(a) || field.Mul(a, 1) != field.Mod(a) || field.Mul(a, 0) != 0 {
			t.Error("with 0 or 1", a)
		}
		for _, b := range l {
			if field.Add(a, b) != field.Add(b, a) || field.Mul(a, b) != field.Mul(b, a) {
				t.Error("order", a, b)
			}
			for _, c := range l {
				if field.Add(field.Add(a, b), c) != field.Add(a, field.Add(b, c)) {
					t.Error("brackets of sums", a, b, c)
				}
				if field.Mul(field.Mul(a, b), c) != field.Mul(a, field.Mul(b, c)) {
					t.Error("brackets of products", a, b, c)
				}
				if field.Mul(field.Add(a, b), c) != field.Add(field.Mul(a, c), field.Mul(b, c)) {
					t.Error("products of sums", a, b, c)
				}
			}
		}
	}
}

// P9.3: a product is 0 only if one of the numbers is.
func TestProductsOfNothing(t *testing.T) {
	r := rand.New(rand.NewSource(5))
	for _, a := range append(edges(), some(r, 100)...) {
		for _, b := range append(edges(), some(r, 100)...) {
			if (field.Mul(a, b) == 0) != (field.Mod(a) == 0 || field.Mod(b) == 0) {
				t.Error(a, b, field.Mul(a, b))
			}
		}
	}
}

// P9.3, P9.1: inverses are inverse to each other, and that of a product is the product of those.
func TestInverses(t *testing.T) {
	inverse := func(n int) int {
		x, e := field.Inverse(n)
		if e != api.OK || x < 1 || x >= q || field.Mul(x, n) != 1 {
			t.Error(n, x, e)
		}
		return x
	}
	r := rand.New(rand.NewSource(6))
	for range 3000 {
		a, b := 1+r.Intn(q-1), 1+r.Intn(q-1)
		if inverse(inverse(a)) != a || inverse(field.Mul(a, b)) != field.Mul(inverse(a), inverse(b)) || inverse(-a) != q-inverse(a) {
			t.Error(a, b)
		}
	}
}
