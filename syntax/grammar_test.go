package syntax_test

import (
	"fmt"
	"math/rand"
	"regexp"
	"slices"
	"strings"
)

// The grammar as the chapter writes it; but DAYS are made by weekdays, and a price is at least 1.
const grammar = `
league    = "league" NAME ";"
            { "town" NAME ";" }
            { "way" NAME NAME "minutes" N ";" }
            { "depot" NAME "sets" N ";" }
            { "ground" NAME "town" NAME "bear" N "wear" N "grow" N "uses" N ";" }
            { "team" NAME "ground" NAME "rank" N ";" }
            { "window" NAME SPAN "on" DAYS ";" }
            { "slot" NAME "minute" N "length" N "stewards" N ";" }
            "stewards" N ";"
            "points" N N N ";"
            [ "ties" KEY { "," KEY } ";" ]
            { "phase" NAME FORM "window" NAME ";" }
            { "condition" NAME COND ( "hard" | "price" POSITIVE ) ";" } .
SPAN      = "from" DATE "to" DATE .
DATE      = N "." N "." N .
DAY       = "mon" | "tue" | "wed" | "thu" | "fri" | "sat" | "sun" .
KEY       = "wins" | "diff" | "goals" | "head" | "rank" .
FORM      = ( "single" | "double" | "mirrored" | "cup" ) NAME { "," NAME }
          | "split" NAME N { "," N }
          | "decider" NAME N NAME N .
COND      = ( "rest" | "home" | "away" ) N
          | ( "shut" | "off" ) NAME SPAN
          | "apart" NAME NAME
          | "town" NAME N
          | ( "meet" | "never" ) NAME NAME SPAN
          | "far" N SPAN "on" DAYS .
`

var (
	symbolOf = regexp.MustCompile(`"[^"]*"|[A-Za-z]+|[{}()|=.]|\[|\]`)
	nameOf   = regexp.MustCompile(`^[A-Za-z][A-Za-z0-9_]*$`)
	numberOf = regexp.MustCompile(`^[0-9]+$`)
)

// An edge of a graph leads from one state to another one: freely, or with a token that a symbol of the grammar stands for.
type edge struct {
	symbol string
	to     int
}

// A graph is the grammar as a machine with states, of which 0 is the first one.
type graph struct {
	edges [][]edge
	last  int
	words []string // the words in quotes
	rules map[string][]string
	known map[string][]int
}

func newGraph() *graph {
	g := &graph{rules: map[string][]string{}, known: map[string][]int{}}
	for _, rule := range strings.Split(strings.TrimSpace(grammar), " .\n") {
		l := symbolOf.FindAllString(rule, -1)
		if l[len(l)-1] == "." {
			l = l[:len(l)-1]
		}
		g.rules[l[0]] = l[2:]
		for _, s := range l {
			if word := strings.Trim(s, `"`); word != s && !slices.Contains(g.words, word) {
				g.words = append(g.words, word)
			}
		}
	}
	g.last = g.choice(g.rules["league"], g.state())
	return g
}

func (g *graph) state() int {
	g.edges = append(g.edges, nil)
	return len(g.edges) - 1
}

func (g *graph) join(from, to int, symbol string) {
	g.edges[from] = append(g.edges[from], edge{symbol, to})
}

// choice adds what symbols stand for behind a state, and returns the state behind it.
func (g *graph) choice(l []string, from int) (to int) {
	to = g.state()
	at := from
	for len(l) > 0 {
		s := l[0]
		l = l[1:]
		switch s {
		case "|":
			g.join(at, to, "")
			at = from
		case "(", "[", "{":
			end := inside(l)
			start := g.state()
			g.join(at, start, "")
			at = g.choice(l[:end], start)
			if s == "{" {
				g.join(at, start, "")
			}
			if s != "(" {
				g.join(start, at, "")
			}
			l = l[end+1:]
		default:
			at = g.symbol(s, at)
		}
	}
	g.join(at, to, "")
	return to
}

// inside returns the index of the bracket that closes what symbols begin in.
func inside(l []string) int {
	open := 1
	for i, s := range l {
		switch s {
		case "(", "[", "{":
			open++
		case ")", "]", "}":
			if open--; open == 0 {
				return i
			}
		}
	}
	panic("no bracket")
}

func (g *graph) symbol(s string, from int) (to int) {
	if s == "DAYS" {
		return g.weekdays(from)
	}
	start := g.state()
	g.join(from, start, "")
	if rule, ok := g.rules[s]; ok {
		return g.choice(rule, start)
	}
	to = g.state()
	g.join(start, to, s)
	return to
}

// weekdays adds lists of days that become later.
func (g *graph) weekdays(from int) (to int) {
	to = g.state()
	var days []int
	for range 7 {
		days = append(days, g.state())
	}
	for i, s := range []string{`"mon"`, `"tue"`, `"wed"`, `"thu"`, `"fri"`, `"sat"`, `"sun"`} {
		g.join(from, days[i], s)
		g.join(days[i], to, "")
		for _, earlier := range days[:i] {
			comma := g.state()
			g.join(earlier, comma, `","`)
			g.join(comma, days[i], s)
		}
	}
	return to
}

// stands reports whether a symbol stands for a token.
func (g *graph) stands(symbol, token string) bool {
	switch symbol {
	case "NAME":
		return nameOf.MatchString(token) && !slices.Contains(g.words, token)
	case "N":
		return numberOf.MatchString(token)
	case "POSITIVE":
		return numberOf.MatchString(token) && token != "0"
	}
	return symbol == `"`+token+`"`
}

// free returns the states to which states lead freely, and themselves.
func (g *graph) free(l []int) []int {
	l = slices.Clone(l)
	for i := 0; i < len(l); i++ {
		for _, e := range g.edges[l[i]] {
			if e.symbol == "" && !slices.Contains(l, e.to) {
				l = append(l, e.to)
			}
		}
	}
	slices.Sort(l)
	return l
}

func (g *graph) first() []int { return g.free([]int{0}) }

// step returns the states to which states lead with a token.
func (g *graph) step(l []int, token string) (next []int) {
	key := fmt.Sprint(token, l)
	if next, ok := g.known[key]; ok {
		return next
	}
	for _, s := range l {
		for _, e := range g.edges[s] {
			if e.symbol != "" && g.stands(e.symbol, token) && !slices.Contains(next, e.to) {
				next = append(next, e.to)
			}
		}
	}
	next = g.free(next)
	g.known[key] = next
	return next
}

// read returns the index of the first token with which no declaration goes on; how many tokens there are, if more are needed; or -1 for a declaration.
func (g *graph) read(tokens []string) (wrong int) {
	l := g.first()
	for i, t := range tokens {
		if l = g.step(l, t); len(l) == 0 {
			return i
		}
	}
	if slices.Contains(l, g.last) {
		return -1
	}
	return len(tokens)
}

// sentence returns the tokens of a declaration by chance, with at most about most of them.
func (g *graph) sentence(r *rand.Rand, most int) (tokens []string) {
	for {
		tokens = nil
		at := 0
		for at != g.last && len(tokens) < most {
			e := g.edges[at][r.Intn(len(g.edges[at]))]
			if e.symbol != "" {
				tokens = append(tokens, g.token(r, e.symbol))
			}
			at = e.to
		}
		if at == g.last {
			return tokens
		}
	}
}

// token returns a token by chance for which a symbol stands.
func (g *graph) token(r *rand.Rand, symbol string) string {
	switch symbol {
	case "NAME":
		return anyName(r)
	case "N":
		return fmt.Sprint(anyNumber(r))
	case "POSITIVE":
		return fmt.Sprint(1 + r.Intn(1<<40))
	}
	return strings.Trim(symbol, `"`)
}

// other returns any token by chance.
func (g *graph) other(r *rand.Rand) string {
	switch r.Intn(6) {
	case 0:
		return anyName(r)
	case 1:
		return fmt.Sprint(anyNumber(r))
	case 2:
		const signs = "{}();,=:.<>!+-*/"
		i := r.Intn(len(signs))
		return signs[i : i+1]
	}
	return g.words[r.Intn(len(g.words))]
}
