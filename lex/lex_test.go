package lex_test

import (
	"math"
	"math/big"
	"regexp"
	"slices"
	"strconv"
	"strings"
	"testing"

	"fasti/api"
	"fasti/lex"
)

const (
	letters = "ABCDEFGHIJKLMNOPQRSTUVWXYZabcdefghijklmnopqrstuvwxyz"
	digits  = "0123456789"
	signs   = "{}();,=:.<>!+-*/"
	spaces  = " \t\n\r"
)

func name(s string, at int) api.Token { return api.Token{Kind: api.NameT, Text: s, At: at} }

func number(n, at int) api.Token { return api.Token{Kind: api.NumberT, N: n, At: at} }

func sign(s string, at int) api.Token { return api.Token{Kind: api.SignT, Text: s, At: at} }

// examine checks all that Lex returns.
func examine(t *testing.T, src string, want []api.Token, place int, err api.Errno) {
	t.Helper()
	l, at, e := lex.Lex(src)
	if !slices.Equal(l, want) || at != place || e != err {
		t.Errorf("%.60q: %v, %d, %d; want %v, %d, %d", src, l, at, e, want, place, err)
	}
}

func accept(t *testing.T, src string, want ...api.Token) {
	t.Helper()
	examine(t, src, want, 0, api.OK)
}

func refuse(t *testing.T, src string, place int) {
	t.Helper()
	examine(t, src, nil, place, api.ErrText)
}

// P3.1: what the document gives as examples.
func TestExamples(t *testing.T) {
	accept(t, "sum 30;", name("sum", 0), number(30, 4), sign(";", 6))
	accept(t, "")
	refuse(t, "007", 0)
	accept(t, "1099511627776", number(1<<40, 0))
	accept(t, "a // b", name("a", 0))
	refuse(t, "a $", 2)
}

// P3.1: tokens need nothing between them but where they would be one.
func TestLex(t *testing.T) {
	accept(t, "a=1", name("a", 0), sign("=", 1), number(1, 2))
	accept(t, "rest 3 hard; }", name("rest", 0), number(3, 5), name("hard", 7), sign(";", 11), sign("}", 13))
	accept(t, "\ta\r\n b\n", name("a", 1), name("b", 5))
	accept(t, "a-1", name("a", 0), sign("-", 1), number(1, 2))
	accept(t, "<=>", sign("<", 0), sign("=", 1), sign(">", 2))
	accept(t, "((", sign("(", 0), sign("(", 1))
	accept(t, "1.5", number(1, 0), sign(".", 1), number(5, 2))
	accept(t, "1 0", number(1, 0), number(0, 2))
	accept(t, "12ab", number(12, 0), name("ab", 2))
	accept(t, "ab12_", name("ab12_", 0))
	accept(t, "0x1F", number(0, 0), name("x1F", 1))
	accept(t, "1e5", number(1, 0), name("e5", 1))
	refuse(t, "1_000", 1)
	refuse(t, "2000-01", 5)
}

// P3.1: the first wrong token counts, wherever it is and whatever follows it.
func TestFirstError(t *testing.T) {
	long := strings.Repeat("n", api.MaxName+1)
	refuse(t, "$", 0)
	refuse(t, "  $ 007", 2)
	refuse(t, "007 $", 0)
	refuse(t, "a 00$", 2)
	refuse(t, long+"$", 0)
	refuse(t, "a\n// c\n"+long, 7)
	refuse(t, "1099511627777 $", 0)
	refuse(t, "a;_b", 2)
	refuse(t, "a; //\n\xc3\xa4", 6)
	refuse(t, "\ufeffa", 0)
	refuse(t, "a\u00a0b", 1)
	refuse(t, strings.Repeat(" ", api.MaxSource-1)+"#", api.MaxSource-1)
}

// P3.1: what each byte is, alone, within a name, within a number, and before a sign.
func TestEveryByte(t *testing.T) {
	for i := range 256 {
		b := string([]byte{byte(i)})
		a := name("a", 0)
		one := number(1, 0)
		switch {
		case strings.Contains(letters, b):
			accept(t, b, name(b, 0))
			accept(t, "a"+b, name("a"+b, 0))
			accept(t, "1"+b, one, name(b, 1))
			accept(t, b+";", name(b, 0), sign(";", 1))
		case strings.Contains(digits, b):
			accept(t, b, number(i-'0', 0))
			accept(t, "a"+b, name("a"+b, 0))
			accept(t, "1"+b, number(10+i-'0', 0))
			accept(t, b+";", number(i-'0', 0), sign(";", 1))
		case b == "_":
			refuse(t, b, 0)
			accept(t, "a"+b, name("a_", 0))
			refuse(t, "1"+b, 1)
			refuse(t, b+";", 0)
		case strings.Contains(signs, b):
			accept(t, b, sign(b, 0))
			accept(t, "a"+b, a, sign(b, 1))
			accept(t, "1"+b, one, sign(b, 1))
			accept(t, b+";", sign(b, 0), sign(";", 1))
		case strings.Contains(spaces, b):
			accept(t, b)
			accept(t, "a"+b, a)
			accept(t, "1"+b, one)
			accept(t, b+";", sign(";", 1))
		default:
			refuse(t, b, 0)
			refuse(t, "a"+b, 1)
			refuse(t, "1"+b, 1)
			refuse(t, b+";", 0)
		}
		if b != "\n" {
			accept(t, "//"+b+"$\na", name("a", 5))
		}
	}
	accept(t, "//\n")
	refuse(t, "//\n$", 3)
}

// P3.1: a comment ends before the next line feed, and only there.
func TestComments(t *testing.T) {
	accept(t, "//")
	accept(t, "///")
	accept(t, "// a // b")
	accept(t, "//\n//\n//")
	accept(t, "//\ra")
	accept(t, "// b\na//", name("a", 5))
	accept(t, "a//b\nc", name("a", 0), name("c", 5))
	accept(t, "1//2\n3", number(1, 0), number(3, 5))
	accept(t, "/", sign("/", 0))
	accept(t, "/ /", sign("/", 0), sign("/", 2))
	accept(t, "/\n/", sign("/", 0), sign("/", 2))
	accept(t, "a/b", name("a", 0), sign("/", 1), name("b", 2))
	accept(t, "/*//*/", sign("/", 0), sign("*", 1))
	accept(t, "///\n/", sign("/", 4))
	accept(t, "+//", sign("+", 0))
}

// P3.1: a source that is too long is refused before anything in it is read.
func TestLimit(t *testing.T) {
	for _, x := range []struct {
		part string
		l    int
	}{{" ", 0}, {"/", 0}, {";", api.MaxSource}, {"a ", api.MaxSource / 2}, {"\n", 0}} {
		src := strings.Repeat(x.part, api.MaxSource/len(x.part))
		l, at, e := lex.Lex(src)
		if len(l) != x.l || at != 0 || e != api.OK {
			t.Errorf("%q: %d, %d, %d", x.part, len(l), at, e)
		}
		examine(t, src+" ", nil, 0, api.ErrLimit)
	}
	examine(t, strings.Repeat("$", api.MaxSource+1), nil, 0, api.ErrLimit)
	examine(t, " "+strings.Repeat("7", api.MaxSource), nil, 0, api.ErrLimit)
	examine(t, strings.Repeat(" ", 1<<24), nil, 0, api.ErrLimit)
	refuse(t, strings.Repeat("$", api.MaxSource), 0)
}

// P3.1: numbers that leave 2^40, or an int, or begin with 0.
func TestNumbers(t *testing.T) {
	for _, n := range []int{0, 1, 9, 10, 99, 100, 1<<31 - 1, 1 << 31, 1 << 32, 1<<40 - 1, 1 << 40} {
		s := strconv.Itoa(n)
		accept(t, s, number(n, 0))
		accept(t, "+"+s+"+", sign("+", 0), number(n, 1), sign("+", 1+len(s)))
		refuse(t, "0"+s, 0)
	}
	for bits := 41; bits < 80; bits++ {
		for d := range int64(3) {
			n := new(big.Int).Lsh(big.NewInt(1), uint(bits))
			refuse(t, " "+n.Add(n, big.NewInt(d-1)).String(), 1)
		}
	}
	refuse(t, "1099511627777", 0)
	refuse(t, "00", 0)
	refuse(t, "01099511627776", 0)
	refuse(t, strings.Repeat("0", api.MaxSource), 0)
	refuse(t, strings.Repeat("9", api.MaxSource), 0)
	refuse(t, "1"+strings.Repeat("0", api.MaxSource-1), 0)
}

// P3.1: names that are too long.
func TestLongNames(t *testing.T) {
	for _, part := range []string{"x", "x1", "Z_", "q0_Q"} {
		s := strings.Repeat(part, api.MaxName/len(part))
		accept(t, s, name(s, 0))
		accept(t, "1"+s+"-", number(1, 0), name(s, 1), sign("-", 33))
		for _, b := range []string{"a", "0", "_"} {
			refuse(t, s+b, 0)
			refuse(t, ";"+s+b+" "+s, 1)
		}
	}
	refuse(t, strings.Repeat("x", api.MaxSource), 0)
}

// The reference takes tokens by regular expressions: white space and comments, then a token or nothing.
var (
	passed = regexp.MustCompile(`^(?:[ \t\n\r]|//[^\n]*)*`)
	begun  = regexp.MustCompile(`^(?:([A-Za-z][A-Za-z0-9_]*)|([0-9]+)|([{}();,=:.<>!+*/-]))`)
	named  = regexp.MustCompile(`^[A-Za-z][A-Za-z0-9_]{0,31}$`)
	plain  = regexp.MustCompile(`^(?:0|[1-9][0-9]{0,12})$`)
)

// reference returns what Lex has to return for a source that is not too long.
func reference(src string) (l []api.Token, at int, e api.Errno) {
	for {
		at += len(passed.FindString(src[at:]))
		if at == len(src) {
			return l, 0, api.OK
		}
		m := begun.FindStringSubmatch(src[at:])
		switch {
		case m == nil:
			return nil, at, api.ErrText
		case m[1] != "" && named.MatchString(m[1]):
			l = append(l, name(m[1], at))
		case plain.MatchString(m[2]):
			n, _ := strconv.ParseInt(m[2], 10, 64)
			if n > 1<<40 {
				return nil, at, api.ErrText
			}
			l = append(l, number(int(n), at))
		case m[3] != "":
			l = append(l, sign(m[3], at))
		default:
			return nil, at, api.ErrText
		}
		at += len(m[0])
	}
}

// words calls visit with all words of at most n bytes of an alphabet.
func words(alphabet string, n int, visit func(w string)) {
	var grow func(w string)
	grow = func(w string) {
		visit(w)
		if len(w) < n {
			for i := range len(alphabet) {
				grow(w + alphabet[i:i+1])
			}
		}
	}
	grow("")
}

// P3.1: all short sources.
func TestAllShortSources(t *testing.T) {
	words("a_01/ \n;$", 6, func(src string) {
		l, at, e := reference(src)
		if m, p, f := lex.Lex(src); !slices.Equal(l, m) || at != p || e != f {
			t.Fatalf("%q: %v, %d, %d; want %v, %d, %d", src, m, p, f, l, at, e)
		}
	})
}

// sources returns sources of many parts, of which about one in odds is wrong (none if odds is 0, but two
// parts without a space between them may become a wrong token).
func sources(many, odds int) (l []string) {
	right := []string{
		"a", "B_12", "z9", strings.Repeat("m", api.MaxName), "0", "1", "30", "1099511627776", "// c\n", "//\n", "// \xff$\n",
		" ", "\t", "\n", "\r\n", "{", "}", "(", ")", ";", ",", "=", ":", ".", "<", ">", "!", "+", "-", "*", " / ",
	}
	wrong := []string{"_", "$", "#", "007", "1099511627777", strings.Repeat("m", api.MaxName+1), "\x00", "\x7f", "\x80", "\"", "99999999999999999999"}
	seed := uint32(3)
	draw := func(n int) int {
		seed = seed*1664525 + 1013904223
		return int(seed>>8) % n
	}
	for range many {
		var b strings.Builder
		for range draw(40) {
			part := right[draw(len(right))]
			if odds > 0 && draw(odds) == 0 {
				part = wrong[draw(len(wrong))]
			}
			b.WriteString(part)
			if draw(4) > 0 {
				b.WriteString(" ")
			}
		}
		l = append(l, b.String())
	}
	return l
}

// soundSources returns sources that have tokens.
func soundSources(many int) (l []string) {
	for _, src := range sources(2*many, 0) {
		if _, _, e := reference(src); e == api.OK && len(l) < many {
			l = append(l, src)
		}
	}
	return l
}

// P3.1: longer sources of ordinary and wrong parts.
func TestLongerSources(t *testing.T) {
	good := 0
	for _, odds := range []int{0, 20, 100} {
		for _, src := range sources(3000, odds) {
			l, at, e := reference(src)
			if examine(t, src, l, at, e); t.Failed() {
				return
			}
			if e == api.OK {
				good++
			}
		}
	}
	if good < 1000 || good > 8000 {
		t.Error("the sources are all alike:", good)
	}
}

// P3.2
func TestText(t *testing.T) {
	for _, x := range []struct {
		l    []api.Token
		want string
	}{
		{nil, ""},
		{[]api.Token{}, ""},
		{[]api.Token{name("a", 0), sign("=", 1), number(1, 2)}, "a = 1"},
		{[]api.Token{name("a", 9)}, "a"},
		{[]api.Token{name("a", 5), name("b", 5), name("c", -5)}, "a b c"},
		{[]api.Token{number(0, math.MinInt), number(7, math.MaxInt)}, "0 7"},
		{[]api.Token{number(10, 0), number(1<<40, 0)}, "10 1099511627776"},
		{[]api.Token{sign("/", 0), sign("/", 1)}, "/ /"},
		{[]api.Token{name("B_12", 0)}, "B_12"},
	} {
		if src, e := lex.Text(x.l); src != x.want || e != api.OK {
			t.Errorf("%v: %q, %d", x.l, src, e)
		}
	}
	many := slices.Repeat([]api.Token{name(strings.Repeat("x", api.MaxName), 0)}, api.MaxSource)
	if src, e := lex.Text(many); len(src) != 33*api.MaxSource-1 || e != api.OK {
		t.Error("longer than a source:", len(src), e)
	}
}

// P3.2: what makes a token valid, field by field.
func TestValid(t *testing.T) {
	for _, kind := range []int{math.MinInt, -1, 0, 1, 2, 3, 4, 5, 6, 256 + 1, 256 + 2, 1<<32 + 3, math.MaxInt} {
		for _, s := range []string{"", "a", "_", "a_1", "1", "1a", "a b", " ", ";", "/", "//", "/ ", ";;", "$", "#", "\"", "\n", "\x80", "\xff", "\u00e4", strings.Repeat("k", 32), strings.Repeat("k", 33)} {
			for _, n := range []int{math.MinInt, -1, 0, 1, 1<<40 - 1, 1 << 40, 1<<40 + 1, math.MaxInt} {
				word, ok := s, false
				switch kind {
				case api.NameT:
					ok = n == 0 && (s == "a" || s == "a_1" || s == strings.Repeat("k", 32))
				case api.NumberT:
					word, ok = strconv.Itoa(n), s == "" && n >= 0 && n <= 1<<40
				case api.SignT:
					ok = n == 0 && (s == ";" || s == "/")
				}
				probe(t, api.Token{Kind: kind, Text: s, N: n, At: 3}, word, ok)
			}
		}
	}
	for i := range 256 {
		b := string([]byte{byte(i)})
		probe(t, sign(b, 0), b, strings.Contains(signs, b))
		probe(t, name(b, 0), b, strings.Contains(letters, b))
	}
}

// probe checks that Text returns the word of a valid token, and refuses one that is not, at each place of a list.
func probe(t *testing.T, x api.Token, word string, ok bool) {
	t.Helper()
	a, z := name("a", 0), number(26, 0)
	for _, y := range []struct {
		l    []api.Token
		want string
	}{
		{[]api.Token{x}, word},
		{[]api.Token{x, a, z}, word + " a 26"},
		{[]api.Token{a, x, z}, "a " + word + " 26"},
		{[]api.Token{a, z, x}, "a 26 " + word},
	} {
		want, err := y.want, api.OK
		if !ok {
			want, err = "", api.ErrText
		}
		if src, e := lex.Text(y.l); src != want || e != err {
			t.Errorf("%v: %q, %d; want %q, %d", y.l, src, e, want, err)
		}
	}
}

// P3.2: each field counts but the place, in tokens that are not valid as well.
func TestSame(t *testing.T) {
	all := []api.Token{
		{}, {Text: "a"}, {N: 1}, {Kind: 1}, {Kind: 2}, {Kind: 3}, {Kind: -1}, {Kind: 4}, {Kind: 257}, {Kind: math.MinInt},
		name("a", 0), name("b", 0), name("A", 0), name("aa", 0), name("a ", 0), {Kind: api.NameT, Text: "a", N: 1},
		number(1, 0), number(-1, 0), number(1<<40, 0), number(math.MaxInt, 0), number(math.MinInt, 0), {Kind: api.NumberT, Text: "1"}, {Kind: api.NumberT, Text: "1", N: 1},
		sign(";", 0), sign("/", 0), sign("//", 0), {Kind: api.SignT, Text: "a"}, {Kind: api.SignT, Text: ";", N: 1},
	}
	x := name("x", 7)
	for i, a := range all {
		for k, b := range all {
			b.At = 1000 - k
			equal(t, []api.Token{a}, []api.Token{b}, i == k)
			equal(t, []api.Token{a, x}, []api.Token{b, x}, i == k)
			equal(t, []api.Token{x, a}, []api.Token{x, b}, i == k)
			equal(t, []api.Token{a, b}, []api.Token{b, a}, i == k)
			equal(t, []api.Token{a, b}, []api.Token{a}, false)
		}
		for _, at := range []int{math.MinInt, -1, 1, math.MaxInt} {
			b := a
			b.At = at
			equal(t, []api.Token{a}, []api.Token{b}, true)
		}
		equal(t, []api.Token{a}, nil, false)
		equal(t, []api.Token{a}, []api.Token{a, {}}, false)
	}
	equal(t, nil, nil, true)
	equal(t, nil, []api.Token{}, true)
	equal(t, []api.Token{}, []api.Token{}, true)
	equal(t, all, slices.Clone(all), true)
	equal(t, all[:3:3], all[:3], true)
}

func equal(t *testing.T, a, b []api.Token, want bool) {
	t.Helper()
	if lex.Same(a, b) != want || lex.Same(b, a) != want {
		t.Errorf("%v and %v: want %v", a, b, want)
	}
}

// P3.2
func TestName(t *testing.T) {
	for i := range 256 {
		b := string([]byte{byte(i)})
		first := strings.Contains(letters, b)
		later := first || strings.Contains(digits, b) || b == "_"
		for _, x := range []struct {
			s    string
			want bool
		}{
			{b, first}, {b + "a", first}, {"a" + b, later}, {"a" + b + "a", later}, {"B_12" + b, later},
			{strings.Repeat("q", 31) + b, later}, {strings.Repeat("q", 32) + b, false}, {b + strings.Repeat("q", 32), false},
		} {
			if lex.Name(x.s) != x.want {
				t.Errorf("%q: want %v", x.s, x.want)
			}
		}
	}
	for s, want := range map[string]bool{
		"": false, "B_12": true, "_12": false, "12": false, "a b": false, "a\n": false, " a": false, "a//": false, "\u00e4": false, "a\u00e4": false,
		"a__": true, strings.Repeat("q", 32): true, strings.Repeat("q", 33): false, strings.Repeat("q", 1<<20): false,
	} {
		if lex.Name(s) != want {
			t.Errorf("%.40q: want %v", s, want)
		}
	}
}

// P3.3: Lex of what Text returns are the same tokens, if the text is not too long.
func TestRoundTrip(t *testing.T) {
	for _, src := range soundSources(3000) {
		l, _, _ := lex.Lex(src)
		text, e := lex.Text(l)
		m, at, f := lex.Lex(text)
		if e != api.OK || at != 0 || f != api.OK || !lex.Same(l, m) {
			t.Fatalf("%q is written as %q: %d, %d, %d", src, text, e, at, f)
		}
		if again, e := lex.Text(m); again != text || e != api.OK {
			t.Fatalf("%q is written as %q, %d", text, again, e)
		}
	}
	for _, x := range []struct {
		many int
		want api.Errno
	}{{api.MaxSource / 2, api.OK}, {api.MaxSource/2 + 1, api.ErrLimit}} {
		l := slices.Repeat([]api.Token{sign("/", 0)}, x.many)
		text, _ := lex.Text(l)
		m, at, e := lex.Lex(text)
		if at != 0 || e != x.want || lex.Same(l, m) != (e == api.OK) {
			t.Error(x.many, at, e)
		}
	}
}

// P3.3: places are strictly increasing, and at each of them the text of the token stands.
func TestPlaces(t *testing.T) {
	for _, src := range soundSources(3000) {
		l, _, _ := lex.Lex(src)
		end := 0
		for _, x := range l {
			word, e := lex.Text([]api.Token{x})
			if e != api.OK || x.At < end || !strings.HasPrefix(src[x.At:], word) {
				t.Fatalf("%q: %v after %d", src, x, end)
			}
			end = x.At + len(word)
		}
	}
}

// P3.3: a line feed joins the tokens of two sources, also after a comment.
func TestJoined(t *testing.T) {
	all := append(soundSources(300), "", "//", "a//", "a /", "/", "//\r", "\n")
	for _, a := range all {
		for _, b := range all[len(all)-30:] {
			l, _, _ := lex.Lex(a)
			m, _, _ := lex.Lex(b)
			want := slices.Clone(l)
			for _, x := range m {
				x.At += len(a) + 1
				want = append(want, x)
			}
			if accept(t, a+"\n"+b, want...); t.Failed() {
				return
			}
		}
	}
}

// P3.3: white space and comments have no tokens.
func TestNoTokens(t *testing.T) {
	gaps := []string{" ", "\t", "\n", "\r", "\r\n", "//\n", "// a 007 $ \xff\n", " // /\n ", "//", "// b ; /"}
	for _, a := range gaps {
		for _, b := range gaps {
			for _, c := range gaps {
				accept(t, a+b+c)
			}
		}
	}
}

// P3.3: the source before the place of an error has tokens.
func TestBeforeError(t *testing.T) {
	many := 0
	for _, src := range sources(3000, 20) {
		l, at, e := lex.Lex(src)
		if e == api.OK {
			continue
		}
		many++
		if m, p, f := lex.Lex(src[:at]); len(l) > 0 || p != 0 || f != api.OK || at < len(src) && len(m) > at {
			t.Fatalf("%q: %d; before it: %v, %d, %d", src, at, m, p, f)
		}
	}
	if many < 1000 {
		t.Error("few errors:", many)
	}
}

// P3.1, P3.2: arguments and earlier results stay as they are, and equal calls return equal results.
func TestPure(t *testing.T) {
	src := "a 1 ; // b\n c"
	l, _, _ := lex.Lex(src)
	kept := slices.Clone(l)
	lex.Text(l)
	lex.Same(l, l[1:])
	m, _, _ := lex.Lex(src)
	m[0] = api.Token{}
	refuse(t, "a 1 $", 4)
	if !slices.Equal(l, kept) {
		t.Error(l)
	}
	accept(t, src, kept...)
}
