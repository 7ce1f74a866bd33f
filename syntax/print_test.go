package syntax_test

import (
	"fmt"
	"math"
	"math/rand"
	"reflect"
	"slices"
	"strings"
	"testing"

	"fasti/api"
	"fasti/syntax"
)

// whole returns the league of most.
func whole(t *testing.T) api.League {
	t.Helper()
	l, _, e := syntax.Parse(most)
	if e != api.OK {
		t.Fatal(e)
	}
	return l
}

func printed(t *testing.T, l api.League, want string) {
	t.Helper()
	if s, e := syntax.Print(l); s != want || e != api.OK {
		t.Errorf("%+v: %q, %d; want %q", l, s, e, want)
	}
}

func unprinted(t *testing.T, l api.League) {
	t.Helper()
	if s, e := syntax.Print(l); s != "" || e != api.ErrSyntax {
		t.Errorf("%+v: %q, %d", l, s, e)
	}
}

// P16.2: what the document gives as examples.
func TestPrintExamples(t *testing.T) {
	printed(t, api.League{Name: "a"}, "league a ;\nstewards 0 ;\npoints 0 0 0 ;\n")
	unprinted(t, api.League{})
}

// P16.2: leagues by chance, whatever N their references have.
func TestPrint(t *testing.T) {
	printed(t, whole(t), most)
	r := rand.New(rand.NewSource(20))
	for range 3000 {
		l := anyLeague(r)
		printed(t, l, text(l))
		if printed(t, numbered(r, l), text(l)); t.Failed() {
			return
		}
	}
	l := whole(t)
	l.Ways[0].A.N, l.Phases[0].Of.N, l.Conds[0].B.N = math.MinInt, math.MaxInt, 0
	printed(t, l, most)
}

// P16.2: a line with an element that no declaration has, everything else being right.
func TestUnprinted(t *testing.T) {
	for i, spoil := range []func(l *api.League){
		func(l *api.League) { l.Name = "" },
		func(l *api.League) { l.Name = "a a" },
		func(l *api.League) { l.Name = "a ;\ntown b" },
		func(l *api.League) { l.Name = "a//" },
		func(l *api.League) { l.Name = "a\n" },
		func(l *api.League) { l.Name = "1" },
		func(l *api.League) { l.Name = ";" },
		func(l *api.League) { l.Name = "_a" },
		func(l *api.League) { l.Name = "\xc3\xa4" },
		func(l *api.League) { l.Towns[1].Name = "stewards" },
		func(l *api.League) { l.Ways[0].B = api.Ref{} },
		func(l *api.League) { l.Grounds[0].Town = api.Ref{Name: "hard"} },
		func(l *api.League) { l.Grounds[0].Uses = -1 },
		func(l *api.League) { l.Depots[0].Sets = 1<<40 + 1 },
		func(l *api.League) { l.Teams[1].Ground = api.Ref{Name: strings.Repeat("g", 33)} },
		func(l *api.League) { l.Windows[1].From.Year = -1 },
		func(l *api.League) { l.Windows[1].To.Day = math.MaxInt },
		func(l *api.League) { l.Windows[1].Week = [7]bool{} },
		func(l *api.League) { l.Slots[0].Length = math.MinInt },
		func(l *api.League) { l.Pool = 1<<40 + 1 },
		func(l *api.League) { l.Points[2] = -1 },
		func(l *api.League) { l.Keys[5] = 0 },
		func(l *api.League) { l.Keys[5] = 6 },
		func(l *api.League) { l.Keys[5] = -1 },
		func(l *api.League) { l.Keys = []int{math.MaxInt} },
		func(l *api.League) { l.Conds[0].Price = -1 },
		func(l *api.League) { l.Conds[0].Price = 1<<40 + 1 },
		func(l *api.League) { l.Conds[9].Week = [7]bool{} },
	} {
		l := whole(t)
		spoil(&l)
		if s, e := syntax.Print(l); s != "" || e != api.ErrSyntax {
			t.Error(i, s, e)
		}
	}
}

// P16.2: which fields each kind of phases and conditions uses. The others are zero, or their names empty, and lists that are used are not empty.
func TestUnused(t *testing.T) {
	l := api.League{Name: "a"}
	one := api.Ref{Name: "x", N: 3}
	phases := map[int]api.Phase{}
	for _, kind := range []int{api.SingleP, api.DoubleP, api.MirroredP, api.CupP} {
		phases[kind] = api.Phase{Teams: []api.Ref{one}}
	}
	phases[api.SplitP] = api.Phase{Of: one, Sizes: []int{1}}
	phases[api.DeciderP] = api.Phase{A: one, B: one, PlaceA: 1, PlaceB: 1}
	full := api.Phase{Teams: []api.Ref{one}, Of: one, Sizes: []int{1}, A: one, B: one, PlaceA: 1, PlaceB: 1}
	for kind := -1; kind <= 8; kind++ {
		for mask := range 1 << 7 {
			p := api.Phase{Name: "p", Kind: kind, Window: one}
			mix(&p, full, []string{"Teams", "Of", "Sizes", "A", "B", "PlaceA", "PlaceB"}, mask)
			right := phases[kind]
			right.Name, right.Kind, right.Window = p.Name, p.Kind, p.Window
			if kind == api.DeciderP {
				right.PlaceA, right.PlaceB = p.PlaceA, p.PlaceB // 0 is a number, too
			}
			l.Phases = []api.Phase{p}
			ok := kind >= 1 && kind <= 6 && fmt.Sprint(p) == fmt.Sprint(right)
			examine(t, l, ok)
		}
	}
	l.Phases = nil
	day := api.Date{Year: 1, Month: 1, Day: 1}
	conds := map[int]api.Cond{
		api.RestC: {N: 1}, api.HomeC: {N: 1}, api.AwayC: {N: 1},
		api.ShutC: {A: one, From: day, To: day}, api.OffC: {A: one, From: day, To: day},
		api.ApartC: {A: one, B: one}, api.TownC: {A: one, N: 1},
		api.MeetC: {A: one, B: one, From: day, To: day}, api.NeverC: {A: one, B: one, From: day, To: day},
		api.FarC: {N: 1, From: day, To: day, Week: [7]bool{2: true}},
	}
	every := api.Cond{A: one, B: one, N: 1, From: day, To: day, Week: [7]bool{2: true}}
	for kind := -1; kind <= 12; kind++ {
		for mask := range 1 << 6 {
			c := api.Cond{Name: "c", Kind: kind}
			mix(&c, every, []string{"A", "B", "N", "From", "To", "Week"}, mask)
			right := conds[kind]
			right.Name, right.Kind = c.Name, c.Kind
			// 0 is a number, too, also in a date.
			if right.N > 0 {
				right.N = c.N
			}
			if right.From == day {
				right.From, right.To = c.From, c.To
			}
			l.Conds = []api.Cond{c}
			examine(t, l, kind >= 1 && kind <= 10 && c == right)
		}
	}
}

// mix sets those of some fields to what another structure has whose bits are set.
func mix(to, from any, fields []string, mask int) {
	for i, s := range fields {
		if mask>>i&1 == 1 {
			reflect.ValueOf(to).Elem().FieldByName(s).Set(reflect.ValueOf(from).FieldByName(s))
		}
	}
}

// examine examines what Print returns for a league that can be printed, or for one that cannot.
func examine(t *testing.T, l api.League, ok bool) {
	t.Helper()
	if ok {
		printed(t, l, text(l))
	} else {
		unprinted(t, l)
	}
}

// leaves calls visit with all numbers, strings and bools of a value, and with all its slices.
func leaves(v reflect.Value, visit func(v reflect.Value)) {
	switch v.Kind() {
	case reflect.Struct:
		for i := range v.NumField() {
			leaves(v.Field(i), visit)
		}
	case reflect.Slice:
		visit(v)
		for i := range v.Len() {
			leaves(v.Index(i), visit)
		}
	case reflect.Array:
		for i := range v.Len() {
			leaves(v.Index(i), visit)
		}
	default:
		visit(v)
	}
}

// others returns values to which a leaf may be changed.
func others(v reflect.Value) (l []reflect.Value) {
	add := func(x any) { l = append(l, reflect.ValueOf(x).Convert(v.Type())) }
	switch v.Kind() {
	case reflect.Int:
		for _, n := range []int{0, 1, 2, 5, 6, 7, 10, 11, -1, 1 << 40, 1<<40 + 1, math.MaxInt, math.MinInt, 1 << 32} {
			add(n)
		}
	case reflect.String:
		for _, s := range []string{"", "x", "Hard", "hard", "town", "mon", "a b", "a ;", "//", "7", "a-b", " a", "a ", "a\n", "\x00", strings.Repeat("m", 32), strings.Repeat("m", 33)} {
			add(s)
		}
	case reflect.Bool:
		add(!v.Bool())
	case reflect.Slice:
		l = append(l, reflect.Zero(v.Type()), reflect.MakeSlice(v.Type(), 0, 3), reflect.MakeSlice(v.Type(), 1, 1), reflect.AppendSlice(v, v))
		if v.Len() > 0 {
			l = append(l, v.Slice(1, v.Len()))
		}
	}
	return l
}

// declared reports whether a league is that of a declaration: of the one that has to be printed for it, if there is any.
func declared(l api.League) bool {
	back, _, e := syntax.Parse(text(l))
	return e == api.OK && numberless(back) == numberless(l)
}

// P16.2: each single number, string, bool and list of leagues is changed.
func TestEachField(t *testing.T) {
	r := rand.New(rand.NewSource(21))
	counts := map[bool]int{}
	for k := range 6 {
		l := whole(t)
		if k > 0 {
			l = anyLeague(r)
		}
		leaves(reflect.ValueOf(&l).Elem(), func(v reflect.Value) {
			old := reflect.New(v.Type()).Elem()
			old.Set(v)
			for _, x := range others(v) {
				v.Set(x)
				ok := declared(l)
				if examine(t, l, ok); t.Failed() {
					t.FailNow()
				}
				counts[ok]++
			}
			v.Set(old)
		})
	}
	if counts[true] < 2000 || counts[false] < 2000 {
		t.Error(counts)
	}
}

// P16.2: also texts are printed that are too long to be read.
func TestLongText(t *testing.T) {
	l := api.League{Name: "a"}
	for range 3000 {
		l.Towns = append(l.Towns, api.Town{Name: strings.Repeat("n", 32)})
	}
	want := "league a ;\n" + strings.Repeat("town "+strings.Repeat("n", 32)+" ;\n", 3000) + "stewards 0 ;\npoints 0 0 0 ;\n"
	printed(t, l, want)
	refused(t, want, 0, api.ErrLimit)
	l.Towns[2999].Name = "town"
	unprinted(t, l)
	l = whole(t)
	l.Keys = slices.Repeat(l.Keys, 5000)
	l.Phases[0].Teams = slices.Repeat(l.Phases[0].Teams, 9000)
	l.Phases[4].Sizes = slices.Repeat(l.Phases[4].Sizes, 9000)
	printed(t, l, text(l))
	l.Keys[29999] = 6
	unprinted(t, l)
}

// R2, R3: leagues are not changed by being printed, and an empty list is like none.
func TestPure(t *testing.T) {
	r := rand.New(rand.NewSource(22))
	for range 300 {
		l := anyLeague(r)
		before := shown(l)
		s, e := syntax.Print(l)
		if shown(l) != before {
			t.Fatal(before, l)
		}
		if again, f := syntax.Print(l); again != s || e != f {
			t.Fatal(l, s, again)
		}
	}
	empty := api.League{
		Name: "a", Towns: []api.Town{}, Ways: []api.Way{}, Depots: []api.Depot{}, Grounds: []api.Ground{}, Teams: []api.Team{},
		Windows: []api.Window{}, Slots: []api.Slot{}, Keys: []int{}, Phases: []api.Phase{}, Conds: []api.Cond{},
	}
	printed(t, empty, text(api.League{Name: "a"}))
	l := whole(t)
	l.Phases[0].Sizes, l.Phases[4].Teams, l.Phases[5].Teams, l.Phases[5].Sizes = []int{}, []api.Ref{}, []api.Ref{}, []int{}
	printed(t, l, most)
}
