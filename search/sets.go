package search

import "math/bits"

// A set of rules has a bit for each of them.
type set uint64

// whole returns the set of all of some rules, of which there are at most 64: with 64 of them 0 - 1 has all bits.
func whole(count int) set { return set(1)<<count - 1 }

func (s set) with(i int) set { return s | 1<<i }

func (s set) without(i int) set { return s &^ (1 << i) }

// list returns the rules of a set, in increasing order.
func (s set) list() (l []int) {
	for ; s != 0; s &= s - 1 {
		l = append(l, bits.TrailingZeros64(uint64(s)))
	}
	return l
}

// needed drops from all rules, in order, each one without which the others that are left still permit nothing. It is told, for each assignment, which rules it breaks.
func needed(met []set, count int) (left set) {
	left = whole(count)
rules:
	for i := range count {
		others := left.without(i)
		for _, broken := range met {
			if broken&others == 0 {
				continue rules
			}
		}
		left = others
	}
	return left
}
