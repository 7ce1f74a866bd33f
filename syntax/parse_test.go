package syntax_test

import (
	"fmt"
	"math/rand"
	"slices"
	"strings"
	"testing"

	"fasti/api"
	"fasti/syntax"
)

// most is a declaration with a line of each kind, and with each kind of phases and conditions.
const most = `league l ;
town a ;
town b ;
way a b minutes 60 ;
depot a sets 2 ;
ground g town a bear 300 wear 200 grow 20 uses 2 ;
team x ground g rank 1 ;
team y ground h rank 2 ;
window w from 2026 . 3 . 1 to 2026 . 5 . 31 on mon , tue , wed , thu , fri , sat , sun ;
window v from 0 . 0 . 0 to 99 . 98 . 97 on wed ;
slot s minute 900 length 105 stewards 20 ;
stewards 50 ;
points 3 1 0 ;
ties rank , head , goals , diff , wins , rank ;
phase p single x , y , x window w ;
phase q double y window w ;
phase r mirrored x , y window w ;
phase c cup x , y window w ;
phase t split p 1 , 0 , 2 window w ;
phase u decider p 1 t 2 window w ;
condition c1 rest 3 hard ;
condition c2 home 2 price 7 ;
condition c3 away 0 hard ;
condition c4 shut g from 2026 . 4 . 1 to 2026 . 4 . 2 price 5 ;
condition c5 off x from 0 . 0 . 0 to 99 . 99 . 99 hard ;
condition c6 apart x y price 1 ;
condition c7 town a 1 hard ;
condition c8 meet x y from 2026 . 4 . 1 to 2026 . 4 . 30 hard ;
condition c9 never y x from 2026 . 4 . 1 to 2026 . 4 . 30 hard ;
condition d far 90 from 2026 . 3 . 1 to 2026 . 5 . 31 on mon , wed , sun price 1099511627776 ;
`

// least is a declaration with as few tokens as possible.
const least = "league a ; stewards 0 ; points 0 0 0 ;"

// refused examines that Parse returns an error and a place, and nothing else.
func refused(t *testing.T, src string, at int, e api.Errno) {
	t.Helper()
	if l, p, err := syntax.Parse(src); p != at || err != e || shown(l) != shown(api.League{}) {
		t.Errorf("%.200q: %v, %d, %d; want %d, %d", src, l, p, err, at, e)
	}
}

func wrong(t *testing.T, src string, at int) {
	t.Helper()
	refused(t, src, at, api.ErrSyntax)
}

func accepted(t *testing.T, src string, want api.League) {
	t.Helper()
	if l, at, e := syntax.Parse(src); at != 0 || e != api.OK || shown(l) != shown(want) {
		t.Errorf("%.200q: %+v, %d, %d; want %+v", src, l, at, e, want)
	}
}

// P16.1: what the document gives as examples.
func TestExamples(t *testing.T) {
	wrong(t, "", 0)
	wrong(t, "league a town", 9)
	wrong(t, "league town ;", 7)
	wrong(t, "league a ; stewards 0 ; points 0 0 ;", 35)
	accepted(t, least, api.League{Name: "a"})
}

// with returns the smallest league, changed.
func with(change func(l *api.League)) api.League {
	l := api.League{Name: "a"}
	change(&l)
	return l
}

// P16.1: the lines one by one, with each field from its own place.
func TestLines(t *testing.T) {
	ref := func(s string) api.Ref { return api.Ref{Name: s} }
	none := api.Ref{N: -1}
	from, to := api.Date{Year: 1, Month: 2, Day: 3}, api.Date{Year: 4, Month: 5, Day: 6}
	phase := func(p api.Phase) func(l *api.League) {
		p.Name, p.Window = "p", ref("w")
		return func(l *api.League) { l.Phases = []api.Phase{p} }
	}
	cond := func(c api.Cond) func(l *api.League) {
		c.Name = "c"
		return func(l *api.League) { l.Conds = []api.Cond{c} }
	}
	teams := []api.Ref{ref("x"), ref("y"), ref("z")}
	for _, x := range []struct {
		line, before string
		change       func(l *api.League)
	}{
		{"town b", "stewards", func(l *api.League) { l.Towns = []api.Town{{Name: "b"}} }},
		{"way x y minutes 7", "stewards", func(l *api.League) { l.Ways = []api.Way{{A: ref("x"), B: ref("y"), Minutes: 7}} }},
		{"depot x sets 7", "stewards", func(l *api.League) { l.Depots = []api.Depot{{Town: ref("x"), Sets: 7}} }},
		{"ground g town x bear 1 wear 2 grow 3 uses 4", "stewards", func(l *api.League) {
			l.Grounds = []api.Ground{{Name: "g", Town: ref("x"), Bear: 1, Wear: 2, Grow: 3, Uses: 4}}
		}},
		{"team x ground g rank 4", "stewards", func(l *api.League) { l.Teams = []api.Team{{Name: "x", Ground: ref("g"), Rank: 4}} }},
		{"window w from 1.2.3 to 4.5.6 on tue,sun", "stewards", func(l *api.League) {
			l.Windows = []api.Window{{Name: "w", From: from, To: to, Week: [7]bool{1: true, 6: true}}}
		}},
		{"slot s minute 1 length 2 stewards 3", "stewards", func(l *api.League) {
			l.Slots = []api.Slot{{Name: "s", Minute: 1, Length: 2, Stewards: 3}}
		}},
		{"ties wins, diff, goals, head, rank", "", func(l *api.League) { l.Keys = []int{1, 2, 3, 4, 5} }},
		{"ties rank, rank", "", func(l *api.League) { l.Keys = []int{5, 5} }},
		{"phase p single x, y, z window w", "", phase(api.Phase{Kind: api.SingleP, Teams: teams, Of: none, A: none, B: none})},
		{"phase p double x window w", "", phase(api.Phase{Kind: api.DoubleP, Teams: teams[:1], Of: none, A: none, B: none})},
		{"phase p mirrored x, y window w", "", phase(api.Phase{Kind: api.MirroredP, Teams: teams[:2], Of: none, A: none, B: none})},
		{"phase p cup x, y, z window w", "", phase(api.Phase{Kind: api.CupP, Teams: teams, Of: none, A: none, B: none})},
		{"phase p split x 3, 0, 3 window w", "", phase(api.Phase{Kind: api.SplitP, Of: ref("x"), Sizes: []int{3, 0, 3}, A: none, B: none})},
		{"phase p decider x 1 y 2 window w", "", phase(api.Phase{Kind: api.DeciderP, Of: none, A: ref("x"), PlaceA: 1, B: ref("y"), PlaceB: 2})},
		{"condition c rest 3 hard", "", cond(api.Cond{Kind: api.RestC, A: none, B: none, N: 3})},
		{"condition c home 3 price 4", "", cond(api.Cond{Kind: api.HomeC, A: none, B: none, N: 3, Price: 4})},
		{"condition c away 0 hard", "", cond(api.Cond{Kind: api.AwayC, A: none, B: none})},
		{"condition c shut x from 1.2.3 to 4.5.6 hard", "", cond(api.Cond{Kind: api.ShutC, A: ref("x"), B: none, From: from, To: to})},
		{"condition c off x from 1.2.3 to 4.5.6 hard", "", cond(api.Cond{Kind: api.OffC, A: ref("x"), B: none, From: from, To: to})},
		{"condition c apart x y price 1", "", cond(api.Cond{Kind: api.ApartC, A: ref("x"), B: ref("y"), Price: 1})},
		{"condition c town x 2 hard", "", cond(api.Cond{Kind: api.TownC, A: ref("x"), B: none, N: 2})},
		{"condition c meet x y from 1.2.3 to 4.5.6 hard", "", cond(api.Cond{Kind: api.MeetC, A: ref("x"), B: ref("y"), From: from, To: to})},
		{"condition c never x y from 1.2.3 to 4.5.6 hard", "", cond(api.Cond{Kind: api.NeverC, A: ref("x"), B: ref("y"), From: from, To: to})},
		{"condition c far 9 from 1.2.3 to 4.5.6 on mon, thu price 1099511627776", "", cond(api.Cond{Kind: api.FarC, A: none, B: none, N: 9, From: from, To: to, Week: [7]bool{0: true, 3: true}, Price: 1 << 40})},
	} {
		at := len(least)
		if x.before != "" {
			at = strings.Index(least, x.before)
		}
		accepted(t, least[:at]+x.line+"; "+least[at:], with(x.change))
		wrong(t, least[:at]+x.line, at+len(x.line))
	}
	accepted(t, "league a; stewards 9; points 1 2 3;", with(func(l *api.League) { l.Pool, l.Points = 9, [3]int{1, 2, 3} }))
}

// P16.1: several lines of one kind are read in order; no line but a condition comes behind the conditions, and none twice that is there once.
func TestOrder(t *testing.T) {
	l, _, e := syntax.Parse(most)
	if e != api.OK || text(l) != most {
		t.Fatal(l, e)
	}
	lines := strings.SplitAfter(most, "\n")
	for i, line := range lines[:len(lines)-1] {
		before := strings.Join(lines[:i+1], "")
		switch word, _, _ := strings.Cut(line, " "); word {
		case "condition":
			if l, _, e := syntax.Parse(most + line); e != api.OK || len(l.Conds) != 11 {
				t.Error(line, e)
			}
		case "league", "stewards", "points", "ties":
			wrong(t, before+line, len(before))
			fallthrough
		default:
			wrong(t, most+line, len(most))
		}
	}
	for i := 1; i+2 < len(lines); i++ {
		word, _, _ := strings.Cut(lines[i], " ")
		if strings.HasPrefix(lines[i+1], word+" ") {
			continue
		}
		// The next line comes first, so that this one comes too late, or the next one too early.
		before := strings.Join(lines[:i], "")
		place := len(before)
		if word != "stewards" && word != "points" {
			place += len(lines[i+1])
		}
		wrong(t, before+lines[i+1]+strings.Join(lines[i:], ""), place)
	}
}

// P16.1: what is wrong in the source is refused before what is wrong in the declaration.
func TestErrorsOfLex(t *testing.T) {
	refused(t, "town ; $", 7, api.ErrText)
	refused(t, "league a ; stewards 1099511627777 ;", 20, api.ErrText)
	refused(t, "league a ; stewards 01 ;", 20, api.ErrText)
	refused(t, least+" _", len(least)+1, api.ErrText)
	refused(t, "league "+strings.Repeat("n", 33)+" ;", 7, api.ErrText)
	refused(t, strings.Repeat(" ", api.MaxSource)+"$", 0, api.ErrLimit)
	refused(t, least+strings.Repeat(" ", api.MaxSource), 0, api.ErrLimit)
	for _, tail := range []string{" ", "\n", "// ;\n"} {
		src := least + strings.Repeat(tail, (api.MaxSource-len(least))/len(tail))
		src += strings.Repeat(" ", api.MaxSource-len(src))
		accepted(t, src, api.League{Name: "a"})
		refused(t, src+" ", 0, api.ErrLimit)
		wrong(t, src[:len(src)-1]+";", api.MaxSource-1)
	}
	name := strings.Repeat("n", api.MaxName)
	accepted(t, "league "+name+" ; stewards 1099511627776 ; points 0 0 0 ;", api.League{Name: name, Pool: 1 << 40})
}

// P16.1: if tokens are missing, the place is the end of the source, whatever stands there.
func TestMissing(t *testing.T) {
	for _, tail := range []string{"", " ", "\n\t", "// more", "// more\n ", " // \xff"} {
		wrong(t, tail, len(tail))
		for _, src := range []string{"league", "league a", "league a;", "league a; town b;", "league a; stewards 0; points 0 0", least[:len(least)-1]} {
			wrong(t, src+tail, len(src+tail))
		}
		accepted(t, least+tail, api.League{Name: "a"})
		accepted(t, least+"condition c rest 1 hard;"+tail, with(func(l *api.League) {
			l.Conds = []api.Cond{{Name: "c", Kind: api.RestC, A: api.Ref{N: -1}, B: api.Ref{N: -1}, N: 1}}
		}))
	}
}

// P16.1: all lists of up to three weekdays, and of all seven: each one is later than the one before it.
func TestWeekdays(t *testing.T) {
	head := "league a; window w from 1.1.1 to 2.2.2 on "
	tail := "; stewards 0; points 0 0 0;"
	var try func(l []int)
	try = func(l []int) {
		src, place := head, -1
		var week [7]bool
		for i, day := range l {
			switch {
			case place >= 0:
			case i > 0 && l[i-1] == 6:
				place = len(src)
			case i > 0 && l[i-1] >= day:
				place = len(src) + 1
			}
			if i > 0 {
				src += ","
			}
			src += dayWords[day]
			week[day] = true
		}
		date := func(n int) api.Date { return api.Date{Year: n, Month: n, Day: n} }
		if place >= 0 {
			wrong(t, src+tail, place)
		} else {
			accepted(t, src+tail, with(func(l *api.League) {
				l.Windows = []api.Window{{Name: "w", From: date(1), To: date(2), Week: week}}
			}))
		}
		for day := range 7 {
			if len(l) < 3 || place < 0 && day == l[len(l)-1]+1 {
				try(append(slices.Clone(l), day))
			}
		}
	}
	for day := range 7 {
		try([]int{day})
	}
	wrong(t, head+tail, len(head))
	wrong(t, head+"mon,"+tail, len(head)+4)
	wrong(t, head+"sun,"+tail, len(head)+3)
	wrong(t, head+"Mon"+tail, len(head))
	wrong(t, head+"mon tue"+tail, len(head)+4)
}

// spell returns a source with tokens, their places, and its end.
func spell(tokens []string) (src string, places []int) {
	for _, s := range tokens {
		places = append(places, len(src))
		src += s + " "
	}
	return src, append(places, len(src))
}

// judge examines whether Parse stops where the grammar says.
func judge(t *testing.T, tokens []string, index int) {
	t.Helper()
	src, places := spell(tokens)
	at, want := 0, api.OK
	if index >= 0 {
		at, want = places[index], api.ErrSyntax
	}
	l, p, e := syntax.Parse(src)
	if p != at || e != want || e != api.OK && shown(l) != shown(api.League{}) {
		t.Fatalf("%q: %d, %d; want %d, %d", src, p, e, at, want)
	}
}

// P16.1, P16.4: each token behind each beginning of declarations.
func TestNextTokens(t *testing.T) {
	g := newGraph()
	next := slices.Clone(g.words)
	for _, s := range "{}();,=:.<>!+-*/" {
		next = append(next, string(s))
	}
	next = append(next, "0", "1", "7", "1099511627776", "name", "Town", strings.Repeat("m", api.MaxName))
	slices.Sort(next)
	next = slices.Compact(next)
	if len(g.words) != 53+3 || len(next) != 53+16+7 {
		t.Fatal(len(g.words), len(next))
	}
	r := rand.New(rand.NewSource(16))
	for k := range 6 {
		tokens := strings.Fields(most)
		if k > 0 {
			tokens = g.sentence(r, 60)
		}
		if g.read(tokens) != -1 {
			t.Fatal(tokens)
		}
		for i := range len(tokens) + 1 {
			before := tokens[:i:i]
			judge(t, before, g.read(before))
			for _, s := range next {
				longer := append(before, s)
				judge(t, longer, g.read(longer))
			}
		}
	}
}

// P16.1, P16.4: declarations by chance, and changed ones.
func TestSentences(t *testing.T) {
	g := newGraph()
	r := rand.New(rand.NewSource(17))
	good, bad := 0, map[bool]int{}
	for range 4000 {
		tokens := g.sentence(r, 400)
		judge(t, tokens, -1)
		good++
		for range 1 + r.Intn(2) {
			i := r.Intn(len(tokens) + 1)
			switch r.Intn(4) {
			case 0:
				tokens = slices.Insert(tokens, i, g.other(r))
			case 1:
				tokens = tokens[:i]
			case 2:
				tokens = slices.Delete(tokens, max(0, i-1), i)
			default:
				tokens = slices.Replace(tokens, max(0, i-1), i, g.other(r))
			}
		}
		index := g.read(tokens)
		judge(t, tokens, index)
		if index >= 0 {
			bad[index == len(tokens)]++
		}
	}
	if good == 0 || bad[false] < 1000 || bad[true] < 300 {
		t.Error(good, bad)
	}
}

// P16.1: the league of a declaration has what was written.
func TestLeagues(t *testing.T) {
	r := rand.New(rand.NewSource(18))
	for range 3000 {
		l := anyLeague(r)
		if accepted(t, text(l), l); t.Failed() {
			return
		}
	}
}

// P16.1: a word of the grammar is no name anywhere, and each other name is one everywhere.
func TestWords(t *testing.T) {
	g := newGraph()
	tokens := strings.Fields(most)
	names := 0
	for i, s := range tokens {
		if !nameOf.MatchString(s) || slices.Contains(g.words, s) {
			continue
		}
		names++
		for k, word := range g.words {
			if nameOf.MatchString(word) {
				judge(t, slices.Replace(slices.Clone(tokens), i, i+1, word), g.read(append(slices.Clone(tokens[:i]), word)))
				other := []string{strings.ToUpper(word), word + "q", word + "_", "x" + word}[(k+i)%4]
				judge(t, slices.Replace(slices.Clone(tokens), i, i+1, other), -1)
			}
		}
	}
	if names != 57 {
		t.Error(names)
	}
}

// P16.1: sources of any bytes.
func TestAnyBytes(t *testing.T) {
	r := rand.New(rand.NewSource(19))
	for range 3000 {
		src := []byte(most[:r.Intn(len(most))])
		for range r.Intn(4) {
			if len(src) > 0 {
				src[r.Intn(len(src))] = byte(r.Intn(256))
			}
		}
		l, at, e := syntax.Parse(string(src))
		if at < 0 || at > len(src) || e != api.OK && e != api.ErrSyntax && e != api.ErrText || e == api.OK && at != 0 {
			t.Fatal(fmt.Sprintf("%q", src), at, e)
		}
		if e != api.OK && shown(l) != shown(api.League{}) {
			t.Fatal(l)
		}
	}
}
