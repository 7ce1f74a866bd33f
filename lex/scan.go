package lex

import (
	"strconv"
	"strings"

	"fasti/api"
)

// A place is where a token begins that is wrong. The scanning functions report it by a panic, which Lex recovers.
type place int

// scan returns the tokens of a source.
func scan(src string) (l []api.Token) {
	for at := pass(src, 0); at < len(src); {
		t, end := kinds()[classOf(src[at])].scan(src, at)
		l = append(l, t)
		at = pass(src, end)
	}
	return l
}

// pass returns the first place, from at on, at which neither white space nor a comment is.
func pass(src string, at int) int {
	at = endOf(src, at, inSpace)
	for strings.HasPrefix(src[at:], "//") {
		at = endOf(src, lineEnd(src, at), inSpace)
	}
	return at
}

// lineEnd returns the place of the next line feed, or the end of the source.
func lineEnd(src string, at int) int {
	if n := strings.IndexByte(src[at:], '\n'); n >= 0 {
		return at + n
	}
	return len(src)
}

func scanName(src string, at int) (t api.Token, end int) {
	end = endOf(src, at, inName)
	if !Name(src[at:end]) {
		panic(place(at))
	}
	return api.Token{Kind: api.NameT, Text: src[at:end], At: at}, end
}

func scanNumber(src string, at int) (t api.Token, end int) {
	end = endOf(src, at, inNumber)
	n, err := strconv.Atoi(src[at:end])
	if err != nil || n > api.MaxNum || src[at] == '0' && end-at > 1 {
		panic(place(at))
	}
	return api.Token{Kind: api.NumberT, N: n, At: at}, end
}

func scanSign(src string, at int) (t api.Token, end int) {
	end = at + 1
	return api.Token{Kind: api.SignT, Text: src[at:end], At: at}, end
}

func scanNone(src string, at int) (t api.Token, end int) { panic(place(at)) }
