package syntax_test

import (
	"math/rand"
	"reflect"
	"slices"
	"strings"
	"testing"

	"fasti/api"
	"fasti/lex"
	"fasti/syntax"
)

// P16.3: what was printed is read again, with the N of references 0 or -1, and printed again.
func TestThereAndBack(t *testing.T) {
	r := rand.New(rand.NewSource(30))
	for range 3000 {
		want := anyLeague(r)
		show := shown(want)
		src, e := syntax.Print(numbered(r, want))
		if e != api.OK {
			t.Fatal(want, e)
		}
		l, at, e := syntax.Parse(src)
		if at != 0 || e != api.OK || shown(l) != show {
			t.Fatalf("%q: %+v, %d, %d", src, l, at, e)
		}
		if again, e := syntax.Print(l); again != src || e != api.OK {
			t.Fatalf("%q: %q, %d", src, again, e)
		}
	}
}

// P16.3: texts of as many bytes as are read, and of one more.
func TestLongestText(t *testing.T) {
	l := api.League{Name: "a"}
	for range 1637 {
		l.Towns = append(l.Towns, api.Town{Name: strings.Repeat("n", 32)})
	}
	for n := range 32 {
		l.Name = strings.Repeat("a", n+1)
		src, e := syntax.Print(l)
		if e != api.OK || len(src) != api.MaxSource-17+n {
			t.Fatal(n, len(src), e)
		}
		if len(src) > api.MaxSource {
			refused(t, src, 0, api.ErrLimit)
		} else {
			accepted(t, src, l)
		}
	}
}

// P16.3: what is read can be printed, with the tokens that were read.
func TestBackAndThere(t *testing.T) {
	g := newGraph()
	r := rand.New(rand.NewSource(31))
	for range 1500 {
		src := strings.Join(g.sentence(r, 300), " ")
		l, _, e := syntax.Parse(src)
		if e != api.OK {
			t.Fatal(src, e)
		}
		text, e := syntax.Print(l)
		a, _, _ := lex.Lex(src)
		if b, _, f := lex.Lex(text); e != api.OK || f != api.OK || !lex.Same(a, b) {
			t.Fatalf("%q: %q, %d, %d", src, text, e, f)
		}
	}
}

// P16.4: white space and comments between tokens, of declarations and of what is none.
func TestSpace(t *testing.T) {
	g := newGraph()
	r := rand.New(rand.NewSource(32))
	parts := []string{" ", "\n", "\t", "\r\n", "// c\n", "//\n", " // league a ; $ \xff\n", "/////\n  \n"}
	for range 1500 {
		tokens := g.sentence(r, 200)
		if r.Intn(2) == 0 {
			i := r.Intn(len(tokens))
			tokens = slices.Replace(tokens, i, i+r.Intn(2), g.other(r))
		}
		plain, _ := spell(tokens)
		want, _, err := syntax.Parse(plain)
		src := ""
		var places []int
		for i, s := range tokens {
			if i > 0 && tokens[i-1] == "/" {
				src += " " // so that no comment begins with this sign
			}
			for range 1 + r.Intn(3) {
				src += parts[r.Intn(len(parts))]
			}
			places = append(places, len(src))
			src += s
		}
		src += "\n" + parts[r.Intn(len(parts))]
		places = append(places, len(src))
		at := 0
		if i := g.read(tokens); i >= 0 {
			at = places[i]
		}
		if l, p, e := syntax.Parse(src); e != err || p != at || shown(l) != shown(want) {
			t.Fatalf("%q: %+v, %d, %d; want %+v, %d, %d", src, l, p, e, want, at, err)
		}
	}
	tight := "league a;town b;window w from 1.2.3to 4.5.6on mon,tue;stewards 0;points 0 0 0;ties wins,diff;phase p single x,y window w;condition c rest 3hard;"
	l, at, e := syntax.Parse(tight)
	if at != 0 || e != api.OK || len(l.Conds) != 1 || l.Conds[0].N != 3 {
		t.Error(l, at, e)
	}
}

// P16.4: without the line of an element, the league is without this element.
func TestLeftOut(t *testing.T) {
	r := rand.New(rand.NewSource(33))
	for k := range 200 {
		l := anyLeague(r)
		if k == 0 {
			l = whole(t)
		}
		src, e := syntax.Print(l)
		if e != api.OK {
			t.Fatal(l, e)
		}
		lines := strings.SplitAfter(src, "\n")
		lines = lines[:len(lines)-1]
		at := 1
		v := reflect.ValueOf(&l).Elem()
		for _, field := range []string{"Towns", "Ways", "Depots", "Grounds", "Teams", "Windows", "Slots", "Pool", "Points", "Keys", "Phases", "Conds"} {
			f := v.FieldByName(field)
			switch {
			case field == "Pool" || field == "Points":
				// Without such a line, the next one comes too early.
				without := slices.Delete(slices.Clone(lines), at, at+1)
				wrong(t, strings.Join(without, ""), len(strings.Join(without[:at], "")))
				at++
			case field == "Keys":
				if f.Len() > 0 {
					without := l
					without.Keys = nil
					accepted(t, strings.Join(slices.Delete(slices.Clone(lines), at, at+1), ""), without)
					at++
				}
			default:
				for i := range f.Len() {
					without := reflect.New(v.Type()).Elem()
					without.Set(v)
					rest := reflect.AppendSlice(reflect.MakeSlice(f.Type(), 0, 0), f.Slice(0, i))
					without.FieldByName(field).Set(reflect.AppendSlice(rest, f.Slice(i+1, f.Len())))
					accepted(t, strings.Join(slices.Delete(slices.Clone(lines), at, at+1), ""), without.Interface().(api.League))
					at++
				}
			}
		}
		if at != len(lines) {
			t.Fatal(at, len(lines))
		}
		if t.Failed() {
			return
		}
	}
}

// P16.4: a beginning of a declaration is refused at its end, or it is a declaration itself: from `points` on, behind each line.
func TestBeginnings(t *testing.T) {
	g := newGraph()
	r := rand.New(rand.NewSource(34))
	for k := range 150 {
		tokens := strings.Fields(most)
		if k > 0 {
			tokens = g.sentence(r, 200)
		}
		points := slices.Index(tokens, "points")
		for i := range len(tokens) + 1 {
			whole := i > points && tokens[i-1] == ";"
			for _, tail := range []string{"", "\n", " // c"} {
				src := strings.Join(tokens[:i], " ") + tail
				at, want := 0, api.OK
				if !whole {
					at, want = len(src), api.ErrSyntax
				}
				if _, p, e := syntax.Parse(src); p != at || e != want {
					t.Fatalf("%q: %d, %d", src, p, e)
				}
			}
		}
	}
}

// P16.4: what follows the first token that fits nowhere does not matter.
func TestStops(t *testing.T) {
	g := newGraph()
	r := rand.New(rand.NewSource(35))
	for range 2000 {
		tokens := g.sentence(r, 200)
		i := r.Intn(len(tokens) + 1)
		tokens = append(slices.Clone(tokens[:i]), g.other(r))
		if g.read(tokens) != i {
			continue
		}
		for range r.Intn(5) {
			tokens = append(tokens, g.other(r))
		}
		judge(t, tokens, i)
	}
}
