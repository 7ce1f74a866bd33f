package group_test

import (
	"math"
	"math/big"
	"math/rand"
	"testing"

	"fasti/api"
	"fasti/group"
)

const p, q = api.P, api.Q

// integers of any size are the reference for all calculations.
func whole(n int) *big.Int { return big.NewInt(int64(n)) }

// reduced is the number from 0 to m - 1 to which an integer is congruent.
func reduced(n *big.Int, m int) int { return int(new(big.Int).Mod(n, whole(m)).Int64()) }

func multiplied(a, b int) int { return reduced(new(big.Int).Mul(whole(a), whole(b)), p) }

// raised is the power of a to the number from 0 to Q - 1 that is congruent to n.
func raised(a int, n *big.Int) int {
	return int(new(big.Int).Exp(whole(a), whole(reduced(n, q)), whole(p)).Int64())
}

// isElement is the definition of elements.
func isElement(x int) bool {
	return x >= 1 && x <= p-1 && new(big.Int).Exp(whole(x), whole(q), whole(p)).Cmp(whole(1)) == 0
}

// edges are integers at which calculations with numbers of 32 or 64 bits, or of the group, may go wrong.
func edges() (l []int) {
	const most = math.MaxInt / q // the multiples of Q go from -most to most
	for _, n := range []int{0, 1 << 15, 1 << 16, 1 << 29, 1 << 30, 1 << 31, 1 << 32, 1 << 40, 1 << 60, 1 << 62, q / 2, q, p, 3 * q, 2 * p, p / 4, q * q, p * p, most * q} {
		for d := -4; d <= 4; d++ {
			l = append(l, n+d, -n+d)
		}
	}
	return append(l, math.MaxInt, math.MaxInt-1, math.MinInt, math.MinInt+1, 1000, 123456789, -987654321)
}

// some returns n integers by chance, small ones and large ones, below P and beyond it.
func some(r *rand.Rand, n int) (l []int) {
	for range n {
		x := int(r.Uint64())
		switch r.Intn(4) {
		case 0:
			x %= q
		case 1:
			x %= 10
		case 2:
			x = x % 5 * q
		}
		l = append(l, x)
	}
	return l
}

// elements returns n elements by chance, after the least and the greatest ones.
func elements(r *rand.Rand, n int) (l []int) {
	l = []int{1, 3, 4, p - 2}
	for len(l) < n+4 {
		if x := 1 + r.Intn(p-1); isElement(x) {
			l = append(l, x)
		}
	}
	return l
}

// strangers are no elements, though some of them are congruent to one.
func strangers() []int {
	return []int{0, 2, 6, 8, p - 1, p - 3, p - 4, p, p + 1, p + 3, p + 4, 2*p + 4, 4 - p, -1, -2, -4, 1<<32 + 4, 1 << 62, math.MinInt, math.MaxInt, math.MaxInt / p * p, math.MaxInt/p*p + 1}
}

// isProduct and isPower report whether a call returns a number.
func isProduct(a, b, want int) bool {
	c, e := group.Mul(a, b)
	return e == api.OK && c == want
}

func isPower(a, n, want int) bool {
	c, e := group.Pow(a, n)
	return e == api.OK && c == want
}

// P10.1: small numbers, the greatest ones, and numbers around each power of 2.
func TestValid(t *testing.T) {
	l := append(edges(), strangers()...)
	for n := range 3000 {
		l = append(l, n, -n, p-n, p+n, q-n, q+n)
	}
	for k := range 63 {
		for d := -3; d <= 3; d++ {
			l = append(l, 1<<k+d, -1<<k+d)
		}
	}
	for _, x := range l {
		if group.Valid(x) != isElement(x) {
			t.Error(x, group.Valid(x))
		}
	}
	for _, x := range strangers() {
		if group.Valid(x) {
			t.Error("a stranger", x)
		}
	}
}

// P10.1: numbers by chance, below P, and with few bits.
func TestValidOfAny(t *testing.T) {
	r := rand.New(rand.NewSource(1))
	for range 20000 {
		for _, x := range []int{r.Intn(p), r.Intn(p) >> r.Intn(31), r.Intn(p) & r.Intn(p) & r.Intn(p), r.Intn(1<<16) * r.Intn(1<<16)} {
			if group.Valid(x) != isElement(x) {
				t.Error(x, group.Valid(x))
			}
		}
	}
}

// P10.1
func TestMul(t *testing.T) {
	for _, x := range [][3]int{{4, 4, 16}, {1, 1, 1}, {3, 5, 15}, {p - 2, p - 2, 4}, {p - 2, 3, p - 6}, {536870895, 4, 1}, {1 << 30, 4, 1<<32 - 2*p}} {
		if !isProduct(x[0], x[1], x[2]) || !isProduct(x[1], x[0], x[2]) {
			t.Error(x)
		}
	}
	r := rand.New(rand.NewSource(2))
	l := elements(r, 100)
	for n := range 50 {
		if isElement(p - n) {
			l = append(l, p-n)
		}
	}
	for _, a := range l {
		for _, b := range l {
			if !isProduct(a, b, multiplied(a, b)) {
				t.Error(a, b)
			}
		}
	}
}

// P10.1: exponents of any size, below 0 too, stand for those from 0 to Q - 1.
func TestPow(t *testing.T) {
	for _, x := range [][3]int{
		{4, 0, 1}, {4, 1, 4}, {4, 2, 16}, {4, q, 1}, {4, -q, 1}, {4, q + 1, 4}, {4, q - 1, 536870895}, {4, -1, 536870895}, {4, 123456789, 436533508}, {1, math.MinInt, 1},
		{3, -1, 715827860}, {3, q - 1, 715827860}, {5, 1000000, 807293968}, {p - 2, 77, 1991475131}, {p - 2, 2, 4}, {p - 2, 0, 1}, {p - 2, 1, p - 2},
	} {
		if !isPower(x[0], x[1], x[2]) {
			t.Error(x)
		}
	}
	r := rand.New(rand.NewSource(3))
	for _, a := range elements(r, 30) {
		for _, n := range append(edges(), some(r, 100)...) {
			if !isPower(a, n, raised(a, whole(n))) {
				t.Error(a, n)
			}
		}
		for n, c := 0, 1; n < 100; n, c = n+1, multiplied(c, a) {
			if !isPower(a, n, c) || !isPower(a, n-q, c) || !isPower(a, n+5*q, c) {
				t.Error("product of equal elements", a, n)
			}
		}
		for k := range 63 {
			if !isPower(a, 1<<k, raised(a, whole(1<<k))) || !isPower(a, -1<<k, raised(a, whole(-1<<k))) {
				t.Error("power of 2", a, k)
			}
		}
	}
}

// P10.1: each number has to be an element, for each exponent; with the error there is no number.
func TestStrangers(t *testing.T) {
	for _, a := range strangers() {
		for _, b := range append([]int{1, 4, 536870895}, strangers()...) {
			if c, e := group.Mul(a, b); c != 0 || e != api.ErrGroup {
				t.Error(a, b, c, e)
			}
			if c, e := group.Mul(b, a); c != 0 || e != api.ErrGroup {
				t.Error(b, a, c, e)
			}
		}
		for _, n := range edges() {
			if c, e := group.Pow(a, n); c != 0 || e != api.ErrGroup {
				t.Error("power", a, n, c, e)
			}
		}
	}
}

// P10.4: order and brackets do not matter, products are elements, and 1 changes nothing.
func TestProducts(t *testing.T) {
	l := elements(rand.New(rand.NewSource(4)), 20)
	mul := func(a, b int) int {
		c, e := group.Mul(a, b)
		if e != api.OK || !group.Valid(c) {
			t.Error(a, b, c, e)
		}
		return c
	}
	for _, a := range l {
		if mul(a, 1) != a || mul(1, a) != a {
			t.Error("with 1", a)
		}
		for _, b := range l {
			if mul(a, b) != mul(b, a) {
				t.Error("order", a, b)
			}
			for _, c := range l {
				if mul(mul(a, b), c) != mul(a, mul(b, c)) {
					t.Error("brackets", a, b, c)
				}
			}
		}
	}
}

// P10.4: inverses, sums and products of exponents; those beyond 64 bits are congruent to smaller ones.
func TestPowers(t *testing.T) {
	r := rand.New(rand.NewSource(5))
	pow := func(a, n int) int {
		c, e := group.Pow(a, n)
		if e != api.OK || !group.Valid(c) {
			t.Error(a, n, c, e)
		}
		return c
	}
	for _, a := range elements(r, 30) {
		if !isProduct(a, pow(a, -1), 1) || pow(pow(a, -1), -1) != a || pow(a, 0) != 1 || pow(a, 1) != a || pow(a, q) != 1 {
			t.Error("inverse", a)
		}
		l := append(some(r, 10), 0, 1, -1, q, -q, math.MinInt, math.MaxInt)
		for _, n := range l {
			for _, m := range l {
				sum, product := new(big.Int).Add(whole(n), whole(m)), new(big.Int).Mul(whole(n), whole(m))
				if !isProduct(pow(a, n), pow(a, m), pow(a, reduced(sum, q))) {
					t.Error("sum", a, n, m)
				}
				if !isPower(pow(a, n), m, pow(a, reduced(product, q))) || !isPower(pow(a, m), n, pow(a, reduced(product, q)-q)) {
					t.Error("product", a, n, m)
				}
			}
		}
		b := 1 + r.Intn(q)
		b = multiplied(b, b)
		for _, n := range l {
			if !isPower(multiplied(a, b), n, multiplied(pow(a, n), pow(b, n))) {
				t.Error("power of a product", a, b, n)
			}
		}
	}
}

// P10.4: squares are elements, and elements are squares: as P + 1 is a multiple of 4, a power of them is a root.
func TestSquares(t *testing.T) {
	r := rand.New(rand.NewSource(6))
	for n := range 100000 {
		for _, root := range []int{n + 1, q - n, 1 + r.Intn(p-1)} {
			if x := root * root % p; !group.Valid(x) || group.Valid(p-x) {
				t.Fatal(root, x)
			}
		}
	}
	for range 20000 {
		x := 1 + r.Intn(p-1)
		root := int(new(big.Int).Exp(whole(x), whole((p+1)/4), whole(p)).Int64())
		if (multiplied(root, root) == x) != group.Valid(x) {
			t.Fatal("root", x, root)
		}
	}
}

// P10.4, P10.1: elements are powers of G. Each exponent is a multiple of 2^15 less a number below that.
func TestGenerator(t *testing.T) {
	const step = 1 << 15
	less := map[int]int{}
	for k, x := 0, 1; k < step; k, x = k+1, x*api.G%p {
		less[x] = k
	}
	far, e := group.Pow(api.G, step)
	if e != api.OK {
		t.Fatal(e)
	}
	for _, a := range elements(rand.New(rand.NewSource(7)), 10) {
		found := false
		for i, x := 1, far; i <= step && !found; i, x = i+1, x*far%p {
			inverse, _ := group.Pow(x, -1)
			k, ok := less[multiplied(inverse, a)]
			found = ok && isPower(api.G, i*step+k, a)
		}
		if !found && a != 1 {
			t.Error(a)
		}
	}
}
