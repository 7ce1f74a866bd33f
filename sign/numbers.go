package sign

import (
	"fasti/api"
	"fasti/codec"
	"fasti/group"
)

// An exponent is a number from 0 to Q - 1.
type exponent int

// plus adds, modulo Q, a number from 0 to the product of two exponents, so that no sum overflows.
func (x exponent) plus(n int) exponent { return (x + exponent(n)) % api.Q }

func isExponent(n int) bool { return n >= 0 && n < api.Q }

// power returns a power of an element.
func power(a, n int) int {
	x, _ := group.Pow(a, n)
	return x
}

// point returns the element to which a signature leads from a key that is an element.
func point(key int, s api.Sig) int {
	x, _ := group.Mul(power(api.G, s.S), power(key, -s.E))
	return x
}

// hash returns an exponent for a list of numbers and texts of bytes.
func hash(tag string, parts ...any) int {
	l := make([]api.Value, len(parts))
	for i, x := range parts {
		l[i] = value(x)
	}
	b, _ := codec.Encode(api.Value{Kind: api.ListV, L: l}) // a list of numbers and texts can be encoded
	return group.Hash(tag, b)
}

// value returns the value that stands for a number or for a text of bytes.
func value(part any) (v api.Value) {
	switch x := part.(type) {
	case int:
		v = api.Value{Kind: api.IntV, N: x}
	case []byte:
		v = api.Value{Kind: api.TextV, S: string(x)}
	}
	return v
}
