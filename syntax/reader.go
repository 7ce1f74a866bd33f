package syntax

import (
	"slices"

	"fasti/api"
)

// A reader reads the parts of a declaration. Which part follows is always decided by the next token alone, so that the first token that does not fit is also the first one with which no declaration can go on.
type reader struct {
	left   []api.Token // what is not read yet
	end    int         // the end of the source
	league api.League  // what was read
}

// A place is where a token begins that does not fit, or the end of the source if a token is missing. The reader reports it by a panic, which Parse recovers.
type place int

// declaration reads all tokens.
func (r *reader) declaration() api.League {
	for _, part := range []func(){
		r.title, r.towns, r.ways, r.depots, r.grounds, r.teams, r.windows, r.slots,
		r.pool, r.points, r.keys, r.phases, r.conds, r.nothing,
	} {
		part()
	}
	return r.league
}

func (r *reader) title() {
	r.league.Name = r.name("league")
	r.expect(";")
}

func (r *reader) towns() {
	r.league.Towns = elements(r, "town", func() api.Town { return api.Town{Name: r.name()} })
}

func (r *reader) ways() {
	r.league.Ways = elements(r, "way", func() api.Way {
		return api.Way{A: r.ref(), B: r.ref(), Minutes: r.number("minutes")}
	})
}

func (r *reader) depots() {
	r.league.Depots = elements(r, "depot", func() api.Depot {
		return api.Depot{Town: r.ref(), Sets: r.number("sets")}
	})
}

func (r *reader) grounds() {
	r.league.Grounds = elements(r, "ground", func() api.Ground {
		return api.Ground{
			Name: r.name(), Town: r.ref("town"),
			Bear: r.number("bear"), Wear: r.number("wear"), Grow: r.number("grow"), Uses: r.number("uses"),
		}
	})
}

func (r *reader) teams() {
	r.league.Teams = elements(r, "team", func() api.Team {
		return api.Team{Name: r.name(), Ground: r.ref("ground"), Rank: r.number("rank")}
	})
}

func (r *reader) windows() {
	r.league.Windows = elements(r, "window", func() api.Window {
		return api.Window{Name: r.name(), From: r.date("from"), To: r.date("to"), Week: r.week("on")}
	})
}

func (r *reader) slots() {
	r.league.Slots = elements(r, "slot", func() api.Slot {
		return api.Slot{
			Name: r.name(), Minute: r.number("minute"), Length: r.number("length"), Stewards: r.number("stewards"),
		}
	})
}

func (r *reader) pool() {
	r.league.Pool = r.number("stewards")
	r.expect(";")
}

func (r *reader) points() {
	r.league.Points = [3]int{r.number("points"), r.number(), r.number()}
	r.expect(";")
}

func (r *reader) keys() {
	if r.skips("ties") {
		r.league.Keys = list(r, func() int { return r.choice(keys()) })
		r.expect(";")
	}
}

func (r *reader) phases() { r.league.Phases = elements(r, "phase", r.phase) }

func (r *reader) phase() api.Phase {
	p := api.Phase{Name: r.name(), Kind: r.choice(forms()), Of: unused(), A: unused(), B: unused()}
	switch p.Kind {
	case api.SplitP:
		p.Of = r.ref()
		p.Sizes = list(r, func() int { return r.number() })
	case api.DeciderP:
		p.A, p.PlaceA = r.ref(), r.number()
		p.B, p.PlaceB = r.ref(), r.number()
	default:
		p.Teams = list(r, func() api.Ref { return r.ref() })
	}
	p.Window = r.ref("window")
	return p
}

func (r *reader) conds() { r.league.Conds = elements(r, "condition", r.cond) }

func (r *reader) cond() api.Cond {
	c := api.Cond{Name: r.name(), Kind: r.choice(terms()), A: unused(), B: unused()}
	s := shapeOf(c.Kind)
	if s.a {
		c.A = r.ref()
	}
	if s.b {
		c.B = r.ref()
	}
	if s.number {
		c.N = r.number()
	}
	if s.span {
		c.From, c.To = r.date("from"), r.date("to")
	}
	if s.week {
		c.Week = r.week("on")
	}
	c.Price = r.price()
	return c
}

// price reads `hard`, or a price, which is not 0.
func (r *reader) price() int {
	if r.skips("hard") {
		return 0
	}
	r.expect("price")
	return r.take(func(t api.Token) bool { return t.Kind == api.NumberT && t.N > 0 }).N
}

// nothing reads what is behind a declaration.
func (r *reader) nothing() {
	if len(r.left) > 0 {
		panic(place(r.left[0].At))
	}
}

// elements reads the lines that begin with a word.
func elements[T any](r *reader, word string, read func() T) (l []T) {
	for r.skips(word) {
		l = append(l, read())
		r.expect(";")
	}
	return l
}

// list reads what commas separate.
func list[T any](r *reader, read func() T) (l []T) {
	l = append(l, read())
	for r.skips(",") {
		l = append(l, read())
	}
	return l
}

func unused() api.Ref { return api.Ref{N: -1} }

// ref reads a name behind words.
func (r *reader) ref(words ...string) api.Ref { return api.Ref{Name: r.name(words...)} }

// name reads a name behind words.
func (r *reader) name(words ...string) string {
	r.expect(words...)
	return r.take(func(t api.Token) bool { return t.Kind == api.NameT && !isWord(t.Text) }).Text
}

// number reads a number behind words.
func (r *reader) number(words ...string) int {
	r.expect(words...)
	return r.take(func(t api.Token) bool { return t.Kind == api.NumberT }).N
}

// date reads a date behind words.
func (r *reader) date(words ...string) api.Date {
	return api.Date{Year: r.number(words...), Month: r.number("."), Day: r.number(".")}
}

// week reads weekdays behind words. Each of them is later than the one before it, so that no comma follows the last one of the week.
func (r *reader) week(words ...string) (week [7]bool) {
	r.expect(words...)
	day := r.choice(weekdays())
	week[day] = true
	for day < len(week)-1 && r.skips(",") {
		day += 1 + r.choice(weekdays()[day+1:])
		week[day] = true
	}
	return week
}

// choice reads one of some words, and returns its index.
func (r *reader) choice(words []string) int {
	t := r.take(func(t api.Token) bool { return t.Kind == api.NameT && slices.Contains(words, t.Text) })
	return slices.Index(words, t.Text)
}

// expect reads words, or signs.
func (r *reader) expect(words ...string) {
	for _, word := range words {
		r.take(func(t api.Token) bool { return t.Text == word })
	}
}

// skips reads a word, or a sign, if it is the next token.
func (r *reader) skips(word string) bool {
	found := len(r.left) > 0 && r.left[0].Text == word
	if found {
		r.left = r.left[1:]
	}
	return found
}

// take reads the next token, which has to be one that is admitted.
func (r *reader) take(admitted func(t api.Token) bool) api.Token {
	if len(r.left) == 0 {
		panic(place(r.end))
	}
	t := r.left[0]
	if !admitted(t) {
		panic(place(t.At))
	}
	r.left = r.left[1:]
	return t
}
