package syntax

import (
	"slices"
	"strings"

	"fasti/api"
	"fasti/lex"
)

// A writer writes a declaration line by line. It is wrong as soon as a line cannot be written.
type writer struct {
	text  strings.Builder
	wrong bool
}

// Parts of lines that are not written as what they are.
type (
	name string // all other strings are words and signs
	week [7]bool
	span struct{ from, to api.Date }
)

func (w *writer) declaration(l api.League) {
	w.line("league", name(l.Name))
	for _, t := range l.Towns {
		w.line("town", name(t.Name))
	}
	for _, x := range l.Ways {
		w.line("way", x.A, x.B, "minutes", x.Minutes)
	}
	for _, d := range l.Depots {
		w.line("depot", d.Town, "sets", d.Sets)
	}
	for _, g := range l.Grounds {
		w.line("ground", name(g.Name), "town", g.Town, "bear", g.Bear, "wear", g.Wear, "grow", g.Grow, "uses", g.Uses)
	}
	for _, t := range l.Teams {
		w.line("team", name(t.Name), "ground", t.Ground, "rank", t.Rank)
	}
	for _, x := range l.Windows {
		w.line("window", name(x.Name), span{x.From, x.To}, week(x.Week))
	}
	for _, s := range l.Slots {
		w.line("slot", name(s.Name), "minute", s.Minute, "length", s.Length, "stewards", s.Stewards)
	}
	w.line("stewards", l.Pool)
	w.line("points", l.Points[0], l.Points[1], l.Points[2])
	w.keys(l.Keys)
	for _, p := range l.Phases {
		w.phase(p)
	}
	for _, c := range l.Conds {
		w.cond(c)
	}
}

func (w *writer) keys(l []int) {
	if len(l) == 0 {
		return
	}
	var words []string
	for _, k := range l {
		words = append(words, wordAt(keys(), k))
	}
	w.line(slices.Concat([]any{"ties"}, listed(true, words))...)
}

func (w *writer) phase(p api.Phase) {
	split, decider := p.Kind == api.SplitP, p.Kind == api.DeciderP
	w.line(slices.Concat(
		[]any{"phase", name(p.Name), wordAt(forms(), p.Kind)},
		listed(!split && !decider, p.Teams),
		given(split, name(p.Of.Name)),
		listed(split, p.Sizes),
		given(decider, name(p.A.Name)),
		given(decider, p.PlaceA),
		given(decider, name(p.B.Name)),
		given(decider, p.PlaceB),
		[]any{"window", p.Window},
	)...)
}

func (w *writer) cond(c api.Cond) {
	s := shapeOf(c.Kind)
	w.line(slices.Concat(
		[]any{"condition", name(c.Name), wordAt(terms(), c.Kind)},
		given(s.a, name(c.A.Name)),
		given(s.b, name(c.B.Name)),
		given(s.number, c.N),
		given(s.span, span{c.From, c.To}),
		given(s.week, week(c.Week)),
		price(c.Price),
	)...)
}

func price(n int) []any {
	if n == 0 {
		return []any{"hard"}
	}
	return []any{"price", n}
}

// given returns the part that is written of a field: none if the element does not use the field, which is zero then.
func given[T comparable](used bool, v T) []any {
	var zero T
	switch {
	case used:
		return []any{v}
	case v == zero:
		return nil
	}
	return misfit()
}

// listed returns the parts that are written of a list, with commas: none if the element does not use the list, which is empty then, and only then.
func listed[T any](used bool, l []T) (parts []any) {
	if used != (len(l) > 0) {
		return misfit()
	}
	for i, v := range l {
		if i > 0 {
			parts = append(parts, ",")
		}
		parts = append(parts, v)
	}
	return parts
}

// misfit returns a part that cannot be written.
func misfit() []any { return []any{nil} }

// line writes a line with parts.
func (w *writer) line(parts ...any) {
	s, e := lex.Text(append(tokens(parts...), tokens(";")...))
	if e != api.OK {
		w.wrong = true
		return
	}
	w.text.WriteString(s)
	w.text.WriteByte('\n')
}

// tokens returns the tokens of parts. If a part cannot be written, one of them is not valid.
func tokens(parts ...any) (l []api.Token) {
	for _, part := range parts {
		switch p := part.(type) {
		case string:
			l = append(l, fixed(p))
		case name:
			l = append(l, named(string(p)))
		case api.Ref:
			l = append(l, named(p.Name))
		case int:
			l = append(l, api.Token{Kind: api.NumberT, N: p})
		case api.Date:
			l = append(l, tokens(p.Year, ".", p.Month, ".", p.Day)...)
		case span:
			l = append(l, tokens("from", p.from, "to", p.to)...)
		case week:
			l = append(l, tokens("on")...)
			l = append(l, tokens(listed(true, p.words())...)...)
		default:
			l = append(l, api.Token{})
		}
	}
	return l
}

// fixed returns the token of a word or a sign.
func fixed(s string) api.Token {
	if isWord(s) {
		return api.Token{Kind: api.NameT, Text: s}
	}
	return api.Token{Kind: api.SignT, Text: s}
}

// named returns the token of a name. That of a word is not valid.
func named(s string) api.Token {
	if isWord(s) {
		return api.Token{}
	}
	return api.Token{Kind: api.NameT, Text: s}
}

// words returns the words of the weekdays of a week.
func (x week) words() (l []string) {
	for day, on := range x {
		if on {
			l = append(l, weekdays()[day])
		}
	}
	return l
}
