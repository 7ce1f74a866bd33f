package group

import (
	"iter"

	"fasti/api"
)

// exponentBits is the number of bits of the exponents, which are below Q.
const exponentBits = 30

// product returns the product of two numbers modulo P. Below P, they have 31 bits each, so that it does not overflow.
func product(a, b int) int { return a * b % api.P }

// power returns x to an exponent, by its bits from the lowest one on.
func power(x, n int) int {
	y := 1
	for square := range squares(x) {
		if n&1 == 1 {
			y = product(y, square)
		}
		n >>= 1
	}
	return y
}

// squares yields, for each bit of an exponent, the power of x for which it stands: x, and then the square of the one before.
func squares(x int) iter.Seq[int] {
	return func(yield func(square int) bool) {
		square := x
		for range exponentBits {
			if !yield(square) {
				return
			}
			square = product(square, square)
		}
	}
}

// exponent returns the number from 0 to Q - 1 that is congruent to a sum. Each integer is reduced before it is added, so that no sum overflows.
func exponent(l ...int) (x int) {
	for _, n := range l {
		x = (x + n%api.Q + api.Q) % api.Q
	}
	return x
}

// isSquare reports whether a number from 1 to P - 1 is a square modulo P. It is one if the Jacobi symbol of x and P is 1,
// which the law of quadratic reciprocity reduces to that of smaller numbers. Those never have a common divisor, as P is a
// prime; so x comes to 1.
func isSquare(x int) bool {
	m, square := api.P, true
symbol:
	for {
		switch {
		case x <= 1:
			break symbol
		case x%2 == 0:
			square = square == (m%8 == 1 || m%8 == 7)
			x /= 2
		default:
			square = square == (x%4 == 1 || m%4 == 1)
			x, m = m%x, x
		}
	}
	return square
}
