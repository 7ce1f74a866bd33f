package field

import "fasti/api"

// sum adds up any integers. Each of them is reduced before it is added, so that no sum overflows.
func sum(l ...int) (x int) {
	for _, n := range l {
		x = Mod(x + Mod(n))
	}
	return x
}

// difference returns a - b. The least integer has no opposite one, so b is reduced first.
func difference(a, b int) int { return sum(a, -Mod(b)) }

// inverse returns the inverse of what is not 0: by Fermat's theorem n to the power of Q - 1 is 1.
func inverse(n int) int { return power(n, api.Q-2) }

// power returns x to a power that is not negative, by its bits from the lowest one on.
func power(x, n int) int {
	y := 1
bits:
	for {
		switch {
		case n == 0:
			break bits
		case n&1 == 1:
			y = Mul(y, x)
		}
		x, n = Mul(x, x), n>>1
	}
	return y
}
