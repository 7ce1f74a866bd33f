package lex

import (
	"strconv"

	"fasti/api"
)

// A kind says how what begins with a byte of one class is scanned,
// and how the tokens with the number of this class are examined and written.
type kind struct {
	scan func(src string, at int) (t api.Token, end int)
	fits func(t api.Token) bool
	word func(t api.Token) string
}

// kinds returns the kinds, each at its class. With the other classes no token begins.
func kinds() [classCount]kind {
	return [classCount]kind{
		other:  {scan: scanNone},
		letter: {scan: scanName, fits: fitsName, word: textWord},
		digit:  {scan: scanNumber, fits: fitsNumber, word: numberWord},
		sign:   {scan: scanSign, fits: fitsSign, word: textWord},
		space:  {scan: scanNone},
		link:   {scan: scanNone},
	}
}

func valid(t api.Token) bool {
	return t.Kind >= api.NameT && t.Kind <= api.SignT && kinds()[t.Kind].fits(t)
}

func fitsName(t api.Token) bool { return t.N == 0 && Name(t.Text) }

func fitsNumber(t api.Token) bool { return t.Text == "" && t.N >= 0 && t.N <= api.MaxNum }

func fitsSign(t api.Token) bool {
	return t.N == 0 && len(t.Text) == 1 && classOf(t.Text[0]) == sign
}

func textWord(t api.Token) string { return t.Text }

func numberWord(t api.Token) string { return strconv.Itoa(t.N) }

// alike compares all of two tokens but their places.
func alike(a, b api.Token) bool { return a.Kind == b.Kind && a.Text == b.Text && a.N == b.N }
