package field_test

import (
	"math"
	"math/big"
	"math/rand"
	"slices"
	"testing"

	"fasti/api"
	"fasti/field"
)

// valueOf is the sum of the coefficients, each times the power of a number, in integers of any size.
func valueOf(poly []int, at int) int {
	s, power := new(big.Int), whole(1)
	for _, c := range poly {
		s.Add(s, new(big.Int).Mul(whole(c), power))
		power.Mul(power, whole(at)).Mod(power, whole(q))
	}
	return reduced(s)
}

// points returns the points of a polynomial at some numbers.
func points(poly []int, at ...int) (l []api.Point) {
	for _, x := range at {
		l = append(l, api.Point{X: x, Y: valueOf(poly, x)})
	}
	return l
}

// different returns n integers by chance that stand for different numbers.
func different(r *rand.Rand, n int) (l []int) {
	met := map[int]bool{}
	for len(l) < n {
		x := some(r, 1)[0]
		if !met[reduced(whole(x))] {
			met[reduced(whole(x))] = true
			l = append(l, x)
		}
	}
	return l
}

// through returns the coefficients of the polynomial through points, by elimination in a system of equations.
func through(l []api.Point) (poly []int) {
	rows := make([][]int, len(l))
	for i, p := range l {
		for c := 1; len(rows[i]) < len(l); c = multiplied(c, p.X) {
			rows[i] = append(rows[i], c)
		}
		rows[i] = append(rows[i], p.Y)
	}
	for i := range rows {
		k := i
		for rows[k][i] == 0 {
			k++
		}
		rows[i], rows[k] = rows[k], rows[i]
		scale(rows[i], rows[i][i])
		for k := range rows {
			if k != i {
				subtract(rows[k], rows[i], rows[k][i])
			}
		}
	}
	for _, row := range rows {
		poly = append(poly, row[len(l)])
	}
	return poly
}

// scale divides a row.
func scale(row []int, by int) {
	inverse := int(new(big.Int).ModInverse(whole(by), whole(q)).Int64())
	for i, c := range row {
		row[i] = multiplied(c, inverse)
	}
}

// subtract takes a multiple of a row away from another one.
func subtract(row, other []int, times int) {
	for i, c := range other {
		row[i] = added(row[i], -multiplied(c, times))
	}
}

// reached reports whether At returns a value.
func reached(l []api.Point, at, want int) bool {
	y, e := field.At(l, at)
	return e == api.OK && y == want
}

// refused reports whether At returns an error, and no value.
func refused(l []api.Point, want api.Errno) bool {
	for _, at := range []int{0, 1, 7, -1} {
		if y, e := field.At(l, at); e != want || y != 0 {
			return false
		}
	}
	return true
}

// P9.2
func TestValue(t *testing.T) {
	for i, x := range []struct {
		poly     []int
		at, want int
	}{
		{nil, 7, 0}, {[]int{}, 7, 0}, {nil, 0, 0}, {[]int{5}, 0, 5}, {[]int{5}, q, 5}, {[]int{-5}, 9, q - 5}, {[]int{q}, 9, 0}, {[]int{5, 6, 7}, 0, 5},
		{[]int{1, 2, 3}, 10, 321}, {[]int{1, 2, 3, 0, q, -q}, 10, 321}, {[]int{1, 2, 3}, 10 - q, 321}, {[]int{1 + q, 2 - q, 3 - 2*q}, 10, 321},
		{[]int{0, 1}, -1, q - 1}, {[]int{0, 0, 1}, -1, 1}, {[]int{1, 1, 1, 1}, -1, 0}, {[]int{0, 0, 0, 1}, 1000, 1000000000},
		{[]int{math.MinInt}, 3, reduced(whole(math.MinInt))}, {[]int{0, 1}, math.MinInt, reduced(whole(math.MinInt))},
	} {
		if y := field.Value(x.poly, x.at); y != x.want {
			t.Error(i, y, x.want)
		}
	}
}

// P9.2: polynomials by chance, at any numbers, against integers of any size.
func TestValueOfAny(t *testing.T) {
	r := rand.New(rand.NewSource(11))
	for n := range 100 {
		poly := some(r, n)
		for _, at := range append(some(r, 10), 0, 1, -1, q, math.MinInt, math.MaxInt) {
			if y := field.Value(poly, at); y != valueOf(poly, at) {
				t.Error(n, at, y)
			}
		}
	}
	for _, c := range edges() {
		for _, at := range edges() {
			if y := field.Value([]int{c, c, c}, at); y != valueOf([]int{c, c, c}, at) {
				t.Error(c, at, y)
			}
		}
	}
	long := some(r, 1<<17)
	if y := field.Value(long, 3); y != valueOf(long, 3) {
		t.Error("more coefficients than points have", y)
	}
}

// P9.2: the limit comes before equal numbers, and both before everything else.
func TestAtErrors(t *testing.T) {
	var l []api.Point
	for i := range 70 {
		l = append(l, api.Point{X: i - 5, Y: 4})
	}
	if !refused(l[:65], api.ErrLimit) || !refused(l, api.ErrLimit) || !refused(make([]api.Point, 65), api.ErrLimit) || !refused(make([]api.Point, 1000), api.ErrLimit) {
		t.Error("too many points")
	}
	if !refused(make([]api.Point, 64), api.ErrField) || !reached(l[:64], 77, 4) || !reached(l[:64], 0, 4) {
		t.Error("as many points as there can be")
	}
	for i := range 64 {
		for k := range 64 {
			same := slices.Clone(l[:64])
			same[k].X = same[i].X
			if y, e := field.At(same, 1); i != k && (e != api.ErrField || y != 0) {
				t.Error(i, k, y, e)
			}
		}
	}
}

// P9.2: numbers are equal if they stand for one number of the field, whatever their values are.
func TestAtEqual(t *testing.T) {
	for i, x := range [][2]int{
		{1, 1}, {0, q}, {0, -q}, {-1, q - 1}, {q, -q}, {7, 7 + 2*q}, {math.MinInt, math.MinInt + q}, {math.MaxInt, math.MaxInt - q},
		{math.MinInt, reduced(whole(math.MinInt))}, {math.MaxInt, reduced(whole(math.MaxInt))},
	} {
		for _, y := range [][2]int{{5, 5}, {5, 6}, {0, 0}, {0, q}} {
			a, b := api.Point{X: x[0], Y: y[0]}, api.Point{X: x[1], Y: y[1]}
			if !refused([]api.Point{a, b}, api.ErrField) || !refused([]api.Point{b, {X: 3}, a}, api.ErrField) {
				t.Error(i, y)
			}
		}
	}
	for _, x := range [][2]int{{1, 1 + 1<<32}, {1, 1 + 1<<30}, {1, -1}, {math.MinInt, math.MaxInt}, {math.MinInt, 0}, {q, 2*q + 1}} {
		l := []api.Point{{X: x[0], Y: 5}, {X: x[1], Y: 6}}
		if !reached(l, x[0], 5) || !reached(l, x[1], 6) {
			t.Error("different", x)
		}
	}
}

// P9.2
func TestAt(t *testing.T) {
	for _, at := range []int{0, 7, -1, math.MinInt} {
		if !reached(nil, at, 0) || !reached([]api.Point{}, at, 0) || !reached([]api.Point{{X: 3, Y: 9}}, at, 9) || !reached([]api.Point{{X: 3, Y: -q - 9}}, at, q-9) {
			t.Error("no points, or one", at)
		}
	}
	line := []api.Point{{X: 1, Y: 3}, {X: 2, Y: 5}}
	for at := -20; at < 20; at++ {
		if !reached(line, at, reduced(whole(1+2*at))) || !reached(line, at+q, reduced(whole(1+2*at))) {
			t.Error("1 + 2 x", at)
		}
	}
	if !reached([]api.Point{{X: 0, Y: 1}, {X: 2, Y: 2}}, 1, added(1, 536870895)) {
		t.Error("halves")
	}
}

// P9.2: through any points leads the polynomial that elimination finds, at all numbers.
func TestAtAny(t *testing.T) {
	r := rand.New(rand.NewSource(12))
	for _, n := range []int{1, 2, 3, 4, 5, 6, 7, 8, 9, 10, 16, 17, 31, 32, 33, 63, 64} {
		for range 5 {
			var l []api.Point
			y := some(r, n)
			for i, x := range different(r, n) {
				l = append(l, api.Point{X: x, Y: y[i]})
			}
			poly := through(l)
			for _, at := range append(some(r, 5), 0, -1, q, math.MinInt, math.MaxInt) {
				if !reached(l, at, valueOf(poly, at)) {
					t.Error(n, at)
				}
			}
		}
	}
}

// P9.2: integers at which a difference may be beyond 64 bits.
func TestAtEdges(t *testing.T) {
	poly := []int{3, math.MinInt, -7}
	for _, a := range edges() {
		for _, b := range edges() {
			l := points(poly, a, b, 100)
			all := map[int]bool{reduced(whole(a)): true, reduced(whole(b)): true, 100: true}
			if len(all) < 3 {
				if !refused(l, api.ErrField) {
					t.Error("equal", a, b)
				}
				continue
			}
			if !reached(l, math.MinInt, valueOf(poly, math.MinInt)) || !reached(l, a+b, valueOf(poly, a+b)) {
				t.Error(a, b)
			}
		}
	}
}

// P9.4: at the X of a point At returns its Y, also for another integer that stands for this X.
func TestAtPoints(t *testing.T) {
	r := rand.New(rand.NewSource(13))
	for n := 1; n <= 64; n++ {
		var l []api.Point
		y := some(r, n)
		for i, x := range different(r, n) {
			l = append(l, api.Point{X: x, Y: y[i]})
		}
		for i, p := range l {
			want := reduced(whole(p.Y))
			if !reached(l, p.X, want) || !reached(l, reduced(whole(p.X)), want) || !reached(l, reduced(whole(p.X))-q, want) {
				t.Error(n, i)
			}
		}
	}
}

// P9.4: n values of a polynomial with n coefficients, or fewer, determine all of its values; with fewer values they need not.
func TestAtDetermines(t *testing.T) {
	r := rand.New(rand.NewSource(14))
	for n := range 65 {
		for _, poly := range [][]int{some(r, n), make([]int, n), some(r, n/2)} {
			l := points(poly, different(r, n)...)
			for _, at := range append(some(r, 4), 0, 1) {
				if !reached(l, at, field.Value(poly, at)) {
					t.Error(n, len(poly), at)
				}
			}
		}
	}
	square := points([]int{0, 0, 1}, 1, 2)
	if !reached(square, 3, 7) || !reached(append(square, api.Point{X: 5, Y: 25}), 3, 9) {
		t.Error("two points, and three, of a polynomial with three coefficients")
	}
}

// P9.5: all orders of a few points, and some of many.
func TestOrder(t *testing.T) {
	r := rand.New(rand.NewSource(15))
	l := points(some(r, 4), different(r, 4)...)
	for _, at := range some(r, 4) {
		want, _ := field.At(l, at)
		for i := range 256 {
			order := []int{i & 3, i >> 2 & 3, i >> 4 & 3, i >> 6}
			if sorted := slices.Sorted(slices.Values(order)); !slices.Equal(sorted, []int{0, 1, 2, 3}) {
				continue
			}
			var m []api.Point
			for _, k := range order {
				m = append(m, l[k])
			}
			if !reached(m, at, want) {
				t.Error(order, at)
			}
		}
	}
	for n := range 65 {
		m := points(some(r, n), different(r, n)...)
		want, e := field.At(m, 5)
		r.Shuffle(n, func(i, k int) { m[i], m[k] = m[k], m[i] })
		if e != api.OK || !reached(m, 5, want) {
			t.Error(n, e)
		}
	}
}

// P9.5: a further point on the same polynomial changes nothing; one beside it changes all values but those at the X of the points.
func TestFurther(t *testing.T) {
	r := rand.New(rand.NewSource(16))
	for n := range 63 {
		x := different(r, n+2)
		var l []api.Point
		for i, y := range some(r, n) {
			l = append(l, api.Point{X: x[i], Y: y})
		}
		y, e := field.At(l, x[n])
		at, f := field.At(l, x[n+1])
		if e != api.OK || f != api.OK {
			t.Fatal(e, f)
		}
		more := append(slices.Clone(l), api.Point{X: x[n], Y: y})
		beside := append(slices.Clone(l), api.Point{X: x[n], Y: y + 1})
		if !reached(more, x[n+1], at) || reached(beside, x[n+1], at) {
			t.Error(n)
		}
	}
}

// P9.5: values of sums are sums of values, of polynomials by their coefficients and by their points.
func TestSums(t *testing.T) {
	r := rand.New(rand.NewSource(17))
	for n := range 65 {
		p, s, x := some(r, n), some(r, n), different(r, n)
		var sum []int
		var a, b, c []api.Point
		for i := range n {
			sum = append(sum, added(p[i], s[i]))
			a, b = append(a, api.Point{X: x[i], Y: p[i]}), append(b, api.Point{X: x[i], Y: s[i]})
			c = append(c, api.Point{X: x[i], Y: sum[i]})
		}
		for _, at := range some(r, 4) {
			if field.Value(sum, at) != field.Add(field.Value(p, at), field.Value(s, at)) {
				t.Error("coefficients", n, at)
			}
			y, e := field.At(a, at)
			z, f := field.At(b, at)
			if e != api.OK || f != api.OK || !reached(c, at, field.Add(y, z)) {
				t.Error("points", n, at, e, f)
			}
		}
		longer := append(slices.Clone(p), s...)
		shifted := append(make([]int, n), s...)
		if field.Value(longer, 9) != field.Add(field.Value(p, 9), field.Value(shifted, 9)) {
			t.Error("polynomials of different lengths", n)
		}
	}
}

// R2: no function changes what it is given, or what lies behind it.
func TestPure(t *testing.T) {
	r := rand.New(rand.NewSource(18))
	poly := some(r, 10)
	l := points(poly, different(r, 10)...)
	before, same := slices.Clone(poly), slices.Clone(l)
	first := field.Value(poly[:5], 3)
	y, e := field.At(l[:5], 3)
	for range 3 {
		z, f := field.At(l[:5], 3)
		if field.Value(poly[:5], 3) != first || y != z || e != f {
			t.Error("equal calls")
		}
	}
	if !slices.Equal(poly, before) || !slices.Equal(l, same) {
		t.Error("arguments were changed")
	}
}
