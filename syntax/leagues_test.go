package syntax_test

import (
	"fmt"
	"math/rand"
	"regexp"
	"strings"

	"fasti/api"
)

var (
	dayWords  = [7]string{"mon", "tue", "wed", "thu", "fri", "sat", "sun"}
	keyWords  = map[int]string{1: "wins", 2: "diff", 3: "goals", 4: "head", 5: "rank"}
	formWords = map[int]string{1: "single", 2: "double", 3: "mirrored", 4: "split", 5: "cup", 6: "decider"}
	condWords = map[int]string{1: "rest", 2: "home", 3: "away", 4: "shut", 5: "off", 6: "apart", 7: "town", 8: "meet", 9: "never", 10: "far"}
)

func anyName(r *rand.Rand) string {
	l := []string{"a", "Town", "x1", "LEAGUE", "b_", "towns", "hardy", "mo", "monday", "z9_Z", "N", "NAME", strings.Repeat("q", api.MaxName)}
	return l[r.Intn(len(l))]
}

func anyNumber(r *rand.Rand) int {
	l := []int{0, 1, 2, 7, 99, 2026, 1<<31 - 1, 1 << 32, 1<<40 - 1, 1 << 40, r.Intn(1 << 20)}
	return l[r.Intn(len(l))]
}

func anyRef(r *rand.Rand) api.Ref { return api.Ref{Name: anyName(r)} }

func anyDate(r *rand.Rand) api.Date {
	return api.Date{Year: anyNumber(r), Month: anyNumber(r), Day: anyNumber(r)}
}

func anyWeek(r *rand.Rand) (week [7]bool) {
	for day := range week {
		week[day] = r.Intn(2) == 0
	}
	week[r.Intn(7)] = true
	return week
}

// some returns a list of elements by chance.
func some[T any](r *rand.Rand, least int, element func() T) (l []T) {
	for range least + r.Intn(4) {
		l = append(l, element())
	}
	return l
}

func anyPhase(r *rand.Rand) api.Phase {
	p := api.Phase{Name: anyName(r), Kind: 1 + r.Intn(6), Window: anyRef(r), Of: api.Ref{N: -1}, A: api.Ref{N: -1}, B: api.Ref{N: -1}}
	switch p.Kind {
	case api.SplitP:
		p.Of = anyRef(r)
		p.Sizes = some(r, 1, func() int { return anyNumber(r) })
	case api.DeciderP:
		p.A, p.B, p.PlaceA, p.PlaceB = anyRef(r), anyRef(r), anyNumber(r), anyNumber(r)
	default:
		p.Teams = some(r, 1, func() api.Ref { return anyRef(r) })
	}
	return p
}

func anyCond(r *rand.Rand) api.Cond {
	c := api.Cond{Name: anyName(r), Kind: 1 + r.Intn(10), A: api.Ref{N: -1}, B: api.Ref{N: -1}}
	switch c.Kind {
	case api.RestC, api.HomeC, api.AwayC, api.TownC, api.FarC:
		c.N = anyNumber(r)
	}
	switch c.Kind {
	case api.ShutC, api.OffC, api.ApartC, api.TownC, api.MeetC, api.NeverC:
		c.A = anyRef(r)
	}
	switch c.Kind {
	case api.ApartC, api.MeetC, api.NeverC:
		c.B = anyRef(r)
	}
	switch c.Kind {
	case api.ShutC, api.OffC, api.MeetC, api.NeverC, api.FarC:
		c.From, c.To = anyDate(r), anyDate(r)
	}
	if c.Kind == api.FarC {
		c.Week = anyWeek(r)
	}
	if r.Intn(2) == 0 {
		c.Price = anyNumber(r)
	}
	return c
}

// anyLeague returns what Parse can return, by chance.
func anyLeague(r *rand.Rand) api.League {
	number := func() int { return anyNumber(r) }
	return api.League{
		Name:   anyName(r),
		Towns:  some(r, 0, func() api.Town { return api.Town{Name: anyName(r)} }),
		Ways:   some(r, 0, func() api.Way { return api.Way{A: anyRef(r), B: anyRef(r), Minutes: number()} }),
		Depots: some(r, 0, func() api.Depot { return api.Depot{Town: anyRef(r), Sets: number()} }),
		Grounds: some(r, 0, func() api.Ground {
			return api.Ground{Name: anyName(r), Town: anyRef(r), Bear: number(), Wear: number(), Grow: number(), Uses: number()}
		}),
		Teams: some(r, 0, func() api.Team { return api.Team{Name: anyName(r), Ground: anyRef(r), Rank: number()} }),
		Windows: some(r, 0, func() api.Window {
			return api.Window{Name: anyName(r), From: anyDate(r), To: anyDate(r), Week: anyWeek(r)}
		}),
		Slots: some(r, 0, func() api.Slot {
			return api.Slot{Name: anyName(r), Minute: number(), Length: number(), Stewards: number()}
		}),
		Pool: number(), Points: [3]int{number(), number(), number()},
		Keys:   some(r, 0, func() int { return 1 + r.Intn(5) }),
		Phases: some(r, 0, func() api.Phase { return anyPhase(r) }),
		Conds:  some(r, 0, func() api.Cond { return anyCond(r) }),
	}
}

// numbered returns a league with other N of all references.
func numbered(r *rand.Rand, l api.League) api.League {
	n := func() int { return r.Intn(9) - 4 }
	for i := range l.Ways {
		l.Ways[i].A.N, l.Ways[i].B.N = n(), n()
	}
	for i := range l.Depots {
		l.Depots[i].Town.N = n()
	}
	for i := range l.Grounds {
		l.Grounds[i].Town.N = n()
	}
	for i := range l.Teams {
		l.Teams[i].Ground.N = n()
	}
	for i := range l.Phases {
		p := &l.Phases[i]
		p.Window.N, p.Of.N, p.A.N, p.B.N = n(), n(), n(), n()
		for k := range p.Teams {
			p.Teams[k].N = n()
		}
	}
	for i := range l.Conds {
		l.Conds[i].A.N, l.Conds[i].B.N = n(), n()
	}
	return l
}

// shown returns all of a league as a text, in which a nil slice is like an empty one.
func shown(l api.League) string { return fmt.Sprintf("%+v", l) }

// numberOfRef is how the N of a reference is shown. No other structure ends with an N.
var numberOfRef = regexp.MustCompile(` N:-?[0-9]+}`)

// numberless returns all of a league but the N of references.
func numberless(l api.League) string { return numberOfRef.ReplaceAllString(shown(l), "}") }

func dated(d api.Date) string { return fmt.Sprintf("%d . %d . %d", d.Year, d.Month, d.Day) }

func spanned(from, to api.Date) string { return "from " + dated(from) + " to " + dated(to) }

func weekly(week [7]bool) string {
	var l []string
	for day, on := range week {
		if on {
			l = append(l, dayWords[day])
		}
	}
	return "on " + strings.Join(l, " , ")
}

func formed(p api.Phase) string {
	var l []string
	switch p.Kind {
	case api.SplitP:
		for _, n := range p.Sizes {
			l = append(l, fmt.Sprint(n))
		}
		return p.Of.Name + " " + strings.Join(l, " , ")
	case api.DeciderP:
		return fmt.Sprintf("%s %d %s %d", p.A.Name, p.PlaceA, p.B.Name, p.PlaceB)
	}
	for _, t := range p.Teams {
		l = append(l, t.Name)
	}
	return strings.Join(l, " , ")
}

func conditional(c api.Cond) string {
	switch c.Kind {
	case api.ShutC, api.OffC:
		return c.A.Name + " " + spanned(c.From, c.To)
	case api.ApartC:
		return c.A.Name + " " + c.B.Name
	case api.TownC:
		return fmt.Sprint(c.A.Name, " ", c.N)
	case api.MeetC, api.NeverC:
		return c.A.Name + " " + c.B.Name + " " + spanned(c.From, c.To)
	case api.FarC:
		return fmt.Sprint(c.N, " ", spanned(c.From, c.To), " ", weekly(c.Week))
	}
	return fmt.Sprint(c.N)
}

// text returns the declaration of a league, written without the program. Of a league that has none, it is anything.
func text(l api.League) string {
	var b strings.Builder
	line := func(format string, a ...any) { fmt.Fprintf(&b, format+" ;\n", a...) }
	line("league %s", l.Name)
	for _, t := range l.Towns {
		line("town %s", t.Name)
	}
	for _, w := range l.Ways {
		line("way %s %s minutes %d", w.A.Name, w.B.Name, w.Minutes)
	}
	for _, d := range l.Depots {
		line("depot %s sets %d", d.Town.Name, d.Sets)
	}
	for _, g := range l.Grounds {
		line("ground %s town %s bear %d wear %d grow %d uses %d", g.Name, g.Town.Name, g.Bear, g.Wear, g.Grow, g.Uses)
	}
	for _, t := range l.Teams {
		line("team %s ground %s rank %d", t.Name, t.Ground.Name, t.Rank)
	}
	for _, w := range l.Windows {
		line("window %s %s %s", w.Name, spanned(w.From, w.To), weekly(w.Week))
	}
	for _, s := range l.Slots {
		line("slot %s minute %d length %d stewards %d", s.Name, s.Minute, s.Length, s.Stewards)
	}
	line("stewards %d", l.Pool)
	line("points %d %d %d", l.Points[0], l.Points[1], l.Points[2])
	var ties []string
	for _, k := range l.Keys {
		ties = append(ties, keyWords[k])
	}
	if len(ties) > 0 {
		line("ties %s", strings.Join(ties, " , "))
	}
	for _, p := range l.Phases {
		line("phase %s %s %s window %s", p.Name, formWords[p.Kind], formed(p), p.Window.Name)
	}
	for _, c := range l.Conds {
		price := "hard"
		if c.Price != 0 {
			price = fmt.Sprint("price ", c.Price)
		}
		line("condition %s %s %s %s", c.Name, condWords[c.Kind], conditional(c), price)
	}
	return b.String()
}
