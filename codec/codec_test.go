package codec_test

import (
	"bytes"
	"math"
	"slices"
	"strings"
	"testing"

	"fasti/api"
	"fasti/codec"
)

func num(n int) api.Value { return api.Value{Kind: api.IntV, N: n} }

func text(s string) api.Value { return api.Value{Kind: api.TextV, S: s} }

func list(l ...api.Value) api.Value { return api.Value{Kind: api.ListV, L: l} }

// within puts v into n lists, one within the other.
func within(n int, v api.Value) api.Value {
	for range n {
		v = list(v)
	}
	return v
}

func join(parts ...[]byte) []byte { return bytes.Join(parts, nil) }

func nines(n int) []byte { return bytes.Repeat([]byte{255}, n) }

type pair struct {
	name string
	v    api.Value
	b    []byte
}

// known lists values with their encodings, as the document's table gives them.
func known() []pair {
	long := strings.Repeat("x", 16384)
	many := make([]api.Value, 128)
	for i := range many {
		many[i] = num(0)
	}
	return []pair{
		{"zero", num(0), []byte{1, 0}},
		{"one", num(1), []byte{1, 2}},
		{"minus one", num(-1), []byte{1, 1}},
		{"minus three", num(-3), []byte{1, 5}},
		{"greatest with one digit", num(63), []byte{1, 126}},
		{"least with one digit", num(-64), []byte{1, 127}},
		{"first with two digits", num(64), []byte{1, 128, 1}},
		{"first negative with two digits", num(-65), []byte{1, 129, 1}},
		{"hundred", num(100), []byte{1, 200, 1}},
		{"last with two digits", num(-8192), []byte{1, 255, 127}},
		{"first with three digits", num(8192), []byte{1, 128, 128, 1}},
		{"first with ten digits", num(1 << 62), join([]byte{1}, bytes.Repeat([]byte{128}, 9), []byte{1})},
		{"last with nine digits", num(1<<62 - 1), join([]byte{1, 254}, nines(7), []byte{127})},
		{"greatest", num(math.MaxInt), join([]byte{1, 254}, nines(8), []byte{1})},
		{"least", num(math.MinInt), join([]byte{1}, nines(9), []byte{1})},
		{"empty text", text(""), []byte{2, 0}},
		{"text", text("ab"), []byte{2, 2, 97, 98}},
		{"text that is not UTF-8", text("\x00\xff\xc0"), []byte{2, 3, 0, 255, 192}},
		{"text of 127 bytes", text(long[:127]), join([]byte{2, 127}, []byte(long[:127]))},
		{"text of 128 bytes", text(long[:128]), join([]byte{2, 128, 1}, []byte(long[:128]))},
		{"text of 16384 bytes", text(long), join([]byte{2, 128, 128, 1}, []byte(long))},
		{"empty list", list(), []byte{3, 0}},
		{"list", list(num(100), text("ab")), []byte{3, 2, 1, 200, 1, 2, 2, 97, 98}},
		{"lists in a list", list(list(), list(num(0))), []byte{3, 2, 3, 0, 3, 1, 1, 0}},
		{"128 elements", list(many...), join([]byte{3, 128, 1}, bytes.Repeat([]byte{1, 0}, 128))},
		{"depth 16, empty", within(15, list()), join(bytes.Repeat([]byte{3, 1}, 15), []byte{3, 0})},
		{"depth 16, a number", within(16, num(-1)), join(bytes.Repeat([]byte{3, 1}, 16), []byte{1, 1})},
		{"depth 16, the last element", list(num(0), within(15, text("a"))), join([]byte{3, 2, 1, 0}, bytes.Repeat([]byte{3, 1}, 15), []byte{2, 1, 97})},
	}
}

// P1.1, P1.2
func TestKnown(t *testing.T) {
	for _, x := range known() {
		if e := codec.Check(x.v); e != api.OK {
			t.Errorf("%s: Check: %d", x.name, e)
		}
		if b, e := codec.Encode(x.v); e != api.OK || !bytes.Equal(b, x.b) {
			t.Errorf("%s: Encode: %v, %d", x.name, b, e)
		}
		if n, e := codec.Size(x.v); e != api.OK || n != len(x.b) {
			t.Errorf("%s: Size: %d, %d", x.name, n, e)
		}
		if v, e := codec.Decode(x.b); e != api.OK || !codec.Same(v, x.v) {
			t.Errorf("%s: Decode: %v, %d", x.name, v, e)
		}
	}
}

// P1.1: a field that a kind does not use is empty; nil and the empty slice are alike.
func TestWellFormed(t *testing.T) {
	some := []api.Value{num(0)}
	for _, x := range []struct {
		v    api.Value
		want api.Errno
	}{
		{api.Value{}, api.ErrArg},
		{api.Value{Kind: -1}, api.ErrArg},
		{api.Value{Kind: 4}, api.ErrArg},
		{api.Value{Kind: math.MaxInt}, api.ErrArg},
		{api.Value{Kind: math.MinInt}, api.ErrArg},
		{api.Value{Kind: 256 + api.IntV}, api.ErrArg},
		{api.Value{Kind: api.IntV, S: "a"}, api.ErrArg},
		{api.Value{Kind: api.IntV, L: some}, api.ErrArg},
		{api.Value{Kind: api.TextV, N: -1}, api.ErrArg},
		{api.Value{Kind: api.TextV, S: "a", N: 1}, api.ErrArg},
		{api.Value{Kind: api.TextV, L: some}, api.ErrArg},
		{api.Value{Kind: api.ListV, N: 1}, api.ErrArg},
		{api.Value{Kind: api.ListV, S: "a"}, api.ErrArg},
		{list(num(0), api.Value{}), api.ErrArg},
		{list(list(), list(text(""), api.Value{Kind: api.TextV, N: 1})), api.ErrArg},
		{within(16, api.Value{}), api.ErrArg},
		{api.Value{Kind: api.IntV, L: []api.Value{}}, api.OK},
		{api.Value{Kind: api.TextV, L: []api.Value{}}, api.OK},
		{api.Value{Kind: api.ListV, L: []api.Value{}}, api.OK},
	} {
		examine(t, x.v, x.want)
	}
}

// P1.1: a value that is not well-formed is named before one that is too deep, wherever it is.
func TestDepth(t *testing.T) {
	for _, x := range []struct {
		v    api.Value
		want api.Errno
	}{
		{within(16, num(1)), api.OK},
		{within(17, num(1)), api.ErrLimit},
		{within(15, list()), api.OK},
		{within(16, list()), api.ErrLimit},
		{list(num(1), within(15, list()), num(1)), api.ErrLimit},
		{list(within(15, num(1)), within(15, num(2))), api.OK},
		{within(17, api.Value{}), api.ErrArg},
		{list(within(16, num(1)), api.Value{}), api.ErrArg},
		{list(api.Value{Kind: api.IntV, S: "a"}, within(16, num(1))), api.ErrArg},
		{within(1<<16-1, num(1)), api.ErrLimit},
		{within(1<<16-1, api.Value{}), api.ErrArg},
	} {
		examine(t, x.v, x.want)
	}
}

// examine checks that all three functions return the same error, and no result with it.
func examine(t *testing.T, v api.Value, want api.Errno) {
	t.Helper()
	if e := codec.Check(v); e != want {
		t.Errorf("Check: %d, want %d", e, want)
	}
	if b, e := codec.Encode(v); e != want || (e != api.OK) != (len(b) == 0) {
		t.Errorf("Encode: %v, %d, want %d", b, e, want)
	}
	if n, e := codec.Size(v); e != want || (e != api.OK) != (n == 0) {
		t.Errorf("Size: %d, %d, want %d", n, e, want)
	}
}

// P1.1: Size is the number of bytes at each length of a numeral.
func TestSize(t *testing.T) {
	for shift := range 64 {
		for _, n := range []int{1<<shift - 1, 1 << shift, -1 << shift, -1<<shift - 1} {
			b, e := codec.Encode(num(n))
			k, f := codec.Size(num(n))
			if e != api.OK || f != api.OK || k != len(b) {
				t.Error(n, b, e, k, f)
			}
		}
	}
	big := text(strings.Repeat("x", 1<<20))
	for range 10 {
		big = list(big, big)
	}
	want := 1<<10*(4+1<<20) + 2*(1<<10-1)
	if n, e := codec.Size(big); e != api.OK || n != want {
		t.Error("a gigabyte:", n, want, e)
	}
}

// P1.2
func TestDecodeInvalid(t *testing.T) {
	for _, b := range [][]byte{
		nil,
		{},
		{0},
		{0, 0},
		{4, 0},
		{255, 0},
		{1},
		{1, 128},
		{1, 128, 0},
		{1, 200, 129, 0},
		{1, 5, 0},
		{1, 0, 0},
		join([]byte{1}, nines(8)),
		join([]byte{1}, nines(9)),
		join([]byte{1}, nines(9), []byte{0}),
		join([]byte{1}, nines(9), []byte{2}),
		join([]byte{1}, nines(9), []byte{3}),
		join([]byte{1}, nines(9), []byte{128}),
		join([]byte{1}, nines(9), []byte{129, 0}),
		join([]byte{1}, bytes.Repeat([]byte{128}, 64), []byte{1}),
		{2},
		{2, 1},
		{2, 3, 97},
		{2, 1, 97, 98},
		{2, 128, 0},
		{2, 129, 0, 97},
		join([]byte{2}, nines(9), []byte{1}),
		join([]byte{2}, bytes.Repeat([]byte{128}, 9), []byte{1}),
		join([]byte{2, 254}, nines(7), []byte{127, 97}),
		{3},
		{3, 1},
		{3, 1, 0},
		{3, 1, 4, 0},
		{3, 1, 1},
		{3, 2, 1, 0},
		{3, 0, 1, 0},
		{3, 1, 1, 0, 1, 0},
		{3, 128, 0},
		{3, 129, 0, 1, 0},
		join([]byte{3}, nines(9), []byte{1}),
		join([]byte{3}, nines(9), []byte{1, 1, 0}),
		join(bytes.Repeat([]byte{3, 1}, 16), []byte{3, 0}),
		join(bytes.Repeat([]byte{3, 1}, 17), []byte{1, 0}),
		bytes.Repeat([]byte{3, 1}, 1<<20),
	} {
		v, e := codec.Decode(b)
		if e != api.ErrCode || !codec.Same(v, api.Value{}) {
			t.Errorf("% x: %v, %d", b[:min(len(b), 40)], v, e)
		}
	}
}

// P1.2, P1.4: neither a beginning of an encoding nor an encoding with a further byte is one.
func TestDecodeCutOrLonger(t *testing.T) {
	for _, x := range known() {
		for n := range min(len(x.b), 300) {
			if _, e := codec.Decode(x.b[:n:n]); e != api.ErrCode {
				t.Errorf("%s, cut to %d bytes: %d", x.name, n, e)
			}
		}
		for _, further := range []byte{0, 1, 3, 128} {
			if _, e := codec.Decode(append(slices.Clip(x.b), further)); e != api.ErrCode {
				t.Errorf("%s, followed by %d: %d", x.name, further, e)
			}
		}
	}
}

const alphabet = "\x00\x01\x02\x03\x04\x7f\x80\x81\xff"

// words returns the words of n bytes of the alphabet.
func words(n int) []string {
	l := []string{""}
	for range n {
		var longer []string
		for _, w := range l {
			for i := range len(alphabet) {
				longer = append(longer, w+alphabet[i:i+1])
			}
		}
		l = longer
	}
	return l
}

// numerals returns the numerals of n digits that the alphabet can write.
func numerals(n int) (l []string) {
	for _, w := range words(n) {
		proper := n == 1 || w[n-1] != 0
		for i := range n {
			proper = proper && (w[i] >= 128) == (i < n-1)
		}
		if proper {
			l = append(l, w)
		}
	}
	return l
}

// grammar returns all encodings of n bytes of the alphabet, by the document's table and not by a reader.
func grammar(n int) (l []string) {
	for digits := 1; digits < n; digits++ {
		for _, u := range numerals(digits) {
			if digits == n-1 {
				l = append(l, "\x01"+u)
			}
			// A count of two digits is at least 128, which is more than fits.
			if digits > 1 {
				continue
			}
			if int(u[0]) == n-2 {
				for _, w := range words(n - 2) {
					l = append(l, "\x02"+u+w)
				}
			}
			for _, w := range rows(int(u[0]), n-2) {
				l = append(l, "\x03"+u+w)
			}
		}
	}
	return l
}

// rows returns all rows of k encodings that have n bytes together.
func rows(k, n int) (l []string) {
	if k == 0 || n == 0 {
		if k == 0 && n == 0 {
			l = append(l, "")
		}
		return l
	}
	for first := 2; first <= n; first++ {
		for _, a := range grammar(first) {
			for _, b := range rows(k-1, n-first) {
				l = append(l, a+b)
			}
		}
	}
	return l
}

// P1.2, P1.4: of all short words, those are decoded that are an encoding, and Encode leads back to them.
func TestDecodeAllShortWords(t *testing.T) {
	for n := range 7 {
		valid := map[string]bool{}
		for _, w := range grammar(n) {
			valid[w] = true
		}
		for _, w := range words(n) {
			v, e := codec.Decode([]byte(w))
			if (e == api.OK) != valid[w] || e != api.OK && (e != api.ErrCode || !codec.Same(v, api.Value{})) {
				t.Fatalf("% x: %v, %d", w, v, e)
			}
			if e != api.OK {
				continue
			}
			if b, f := codec.Encode(v); f != api.OK || string(b) != w {
				t.Fatalf("% x: %v is encoded as % x, %d", w, v, b, f)
			}
		}
	}
}

// P1.3: each field counts, in values that are not well-formed as well.
func TestSame(t *testing.T) {
	all := []api.Value{
		{}, {N: 1}, {S: "a"}, {L: []api.Value{{}}}, {L: []api.Value{{}, {}}},
		{Kind: -1}, {Kind: 4}, {Kind: 7, N: 1, S: "a", L: []api.Value{num(1)}}, {Kind: 7, N: 1, S: "a", L: []api.Value{num(2)}},
		num(0), num(1), num(-1), num(math.MaxInt), num(math.MinInt),
		{Kind: api.IntV, S: "a"}, {Kind: api.IntV, N: 1, S: "a"}, {Kind: api.IntV, L: []api.Value{num(0)}},
		text(""), text("a"), text("b"), text("ab"), text("a\x00"), {Kind: api.TextV, N: 1},
		list(), list(num(0)), list(num(0), num(0)), list(num(0), num(1)), list(num(1), num(0)),
		list(text("")), list(list()), list(list(num(0))), list(api.Value{}), {Kind: api.ListV, N: 1}, {Kind: api.ListV, S: "a"},
		within(16, num(1)), within(17, num(1)), within(17, num(2)), within(1<<16-1, num(1)), within(1<<16-1, num(2)),
	}
	for i, a := range all {
		for k, b := range all {
			if codec.Same(a, b) != (i == k) {
				t.Error(i, k)
			}
		}
	}
}

// P1.3
func TestSameNilAndEmpty(t *testing.T) {
	for _, kind := range []int{0, api.IntV, api.TextV, api.ListV, 9} {
		a, b := api.Value{Kind: kind}, api.Value{Kind: kind, L: []api.Value{}}
		if !codec.Same(a, b) || !codec.Same(b, a) || !codec.Same(list(a), list(b)) {
			t.Error(kind)
		}
	}
	whole := []api.Value{num(1), num(2), num(3)}
	if !codec.Same(list(whole[:2]...), list(num(1), num(2))) {
		t.Error("a part of a longer slice")
	}
}

// pool returns many different values: plain ones, and all lists of at most two of them.
func pool() (l []api.Value) {
	plain := []api.Value{
		num(0), num(1), num(-1), num(2), num(3), num(63), num(64), num(-64), num(-65), num(8191), num(8192), num(math.MaxInt), num(math.MinInt),
		text(""), text("\x00"), text("\x01"), text("\x01\x00"), text("\x03\x00"), text("a"), text("aa"), text(strings.Repeat("a", 127)), text(strings.Repeat("a", 128)),
		list(), list(list()), list(num(0), num(0), num(0)), list(list(), list(num(1))), within(15, num(0)), within(14, list()),
	}
	l = slices.Clone(plain)
	for _, a := range plain {
		for _, b := range plain {
			l = append(l, list(a, b))
		}
		// The lists of one element that are not plain themselves.
		if a.Kind != api.ListV {
			l = append(l, list(a))
		}
	}
	return l
}

// P1.4
func TestRoundTrip(t *testing.T) {
	for _, v := range pool() {
		b, e := codec.Encode(v)
		if e != api.OK {
			t.Fatal(v, e)
		}
		w, e := codec.Decode(b)
		if e != api.OK || !codec.Same(v, w) {
			t.Fatal(v, b, w, e)
		}
		if c, e := codec.Encode(w); e != api.OK || !bytes.Equal(b, c) {
			t.Fatal(v, b, c, e)
		}
	}
}

// P1.4: if one encoding were the beginning of another one, or the same, it would be that of its successor in order, too.
func TestNoBeginnings(t *testing.T) {
	var all [][]byte
	for _, v := range pool() {
		b, _ := codec.Encode(v)
		all = append(all, b)
	}
	slices.SortFunc(all, bytes.Compare)
	for i := range len(all) - 1 {
		if bytes.HasPrefix(all[i+1], all[i]) {
			t.Errorf("% x begins % x", all[i], all[i+1])
		}
	}
}

// P1.4: the size of a list follows from its length and from the sizes of its elements.
func TestSizeOfLists(t *testing.T) {
	all := pool()
	for _, k := range []int{0, 1, 2, 127, 128, len(all)} {
		var zeros, elements []api.Value
		sum := 0
		for _, v := range all[:k] {
			// Lists that are as deep as possible have no place in a further one.
			if codec.Check(list(v)) != api.OK {
				v = num(5)
			}
			n, _ := codec.Size(v)
			sum += n
			zeros, elements = append(zeros, num(0)), append(elements, v)
		}
		a, e := codec.Size(list(zeros...))
		b, f := codec.Size(list(elements...))
		if e != api.OK || f != api.OK || b != a-2*k+sum {
			t.Error(k, a, b, sum, e, f)
		}
	}
}

// R2: arguments and earlier results stay as they are.
func TestPure(t *testing.T) {
	b := []byte{3, 2, 1, 200, 1, 2, 2, 97, 98, 77, 77}
	v, _ := codec.Decode(b[:9])
	first, _ := codec.Encode(v)
	kept := bytes.Clone(first)
	codec.Encode(list(v, v))
	w, _ := codec.Decode([]byte{3, 2, 1, 2, 2, 2, 99, 99})
	if !bytes.Equal(b, []byte{3, 2, 1, 200, 1, 2, 2, 97, 98, 77, 77}) || !bytes.Equal(first, kept) {
		t.Error(b, first)
	}
	if !codec.Same(v, list(num(100), text("ab"))) || !codec.Same(w, list(num(1), text("cc"))) {
		t.Error(v, w)
	}
}
