package syntax

import "fasti/api"

// isWord reports whether a string is one of the words in quotes of the grammar, which are no names.
func isWord(s string) bool {
	switch s {
	case "league", "town", "way", "depot", "ground", "team", "window", "slot", "phase", "condition",
		"minutes", "sets", "bear", "wear", "grow", "uses", "rank", "on", "minute", "length", "stewards",
		"points", "ties", "hard", "price", "from", "to",
		"mon", "tue", "wed", "thu", "fri", "sat", "sun",
		"wins", "diff", "goals", "head",
		"single", "double", "mirrored", "cup", "split", "decider",
		"rest", "home", "away", "shut", "off", "apart", "meet", "never", "far":
		return true
	}
	return false
}

// weekdays returns the words of the days of a week.
func weekdays() []string { return []string{"mon", "tue", "wed", "thu", "fri", "sat", "sun"} }

// keys returns the words of the kinds of keys, each at its number.
func keys() []string {
	return []string{api.WinsK: "wins", api.DiffK: "diff", api.GoalsK: "goals", api.HeadK: "head", api.RankK: "rank"}
}

// forms returns the words of the kinds of phases, each at its number.
func forms() []string {
	return []string{
		api.SingleP: "single", api.DoubleP: "double", api.MirroredP: "mirrored",
		api.SplitP: "split", api.CupP: "cup", api.DeciderP: "decider",
	}
}

// terms returns the words of the kinds of conditions, each at its number.
func terms() []string {
	return []string{
		api.RestC: "rest", api.HomeC: "home", api.AwayC: "away", api.ShutC: "shut", api.OffC: "off",
		api.ApartC: "apart", api.TownC: "town", api.MeetC: "meet", api.NeverC: "never", api.FarC: "far",
	}
}

// wordAt returns a word by its number, or the empty string, which is no word, if no word has it.
func wordAt(words []string, n int) string {
	if n < 0 || n >= len(words) {
		return ""
	}
	return words[n]
}

// A shape says what follows the word of a condition, in this order: the names A and B, the number N, the days from From to To, and those of Week.
type shape struct{ a, b, number, span, week bool }

// shapeOf returns the shape of a kind of conditions.
func shapeOf(kind int) (s shape) {
	switch kind {
	case api.RestC, api.HomeC, api.AwayC:
		s = shape{number: true}
	case api.ShutC, api.OffC:
		s = shape{a: true, span: true}
	case api.ApartC:
		s = shape{a: true, b: true}
	case api.TownC:
		s = shape{a: true, number: true}
	case api.MeetC, api.NeverC:
		s = shape{a: true, b: true, span: true}
	case api.FarC:
		s = shape{number: true, span: true, week: true}
	}
	return s
}
