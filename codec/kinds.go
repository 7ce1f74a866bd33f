package codec

import (
	"math/bits"

	"fasti/api"
)

// A kind says how the values of one kind are examined, measured and written.
type kind struct {
	fits  func(v api.Value) bool
	size  func(v api.Value) int
	write func(b []byte, v api.Value) []byte
}

// kinds returns the kinds, each at its own number. Number 0 is no kind.
func kinds() [4]kind {
	return [4]kind{
		api.IntV:  {fits: fitsInt, size: sizeInt, write: writeInt},
		api.TextV: {fits: fitsText, size: sizeText, write: writeText},
		api.ListV: {fits: fitsList, size: sizeList, write: writeList},
	}
}

func wellFormed(v api.Value) bool {
	return v.Kind >= api.IntV && v.Kind <= api.ListV && kinds()[v.Kind].fits(v)
}

func fitsInt(v api.Value) bool { return v.S == "" && len(v.L) == 0 }

func fitsText(v api.Value) bool { return v.N == 0 && len(v.L) == 0 }

func fitsList(v api.Value) bool {
	if v.N != 0 || v.S != "" {
		return false
	}
	for _, x := range v.L {
		if !wellFormed(x) {
			return false
		}
	}
	return true
}

// deeper reports whether the depth of a well-formed value is greater than n.
func deeper(v api.Value, n int) bool {
	if v.Kind != api.ListV {
		return false
	}
	if n == 0 {
		return true
	}
	for _, x := range v.L {
		if deeper(x, n-1) {
			return true
		}
	}
	return false
}

// size measures a value that is well-formed. It writes nothing, so that a value with shared parts costs no memory.
func size(v api.Value) int { return 1 + kinds()[v.Kind].size(v) }

func sizeInt(v api.Value) int { return sizeNumeral(unsigned(v.N)) }

func sizeText(v api.Value) int { return sizeNumeral(uint64(len(v.S))) + len(v.S) }

func sizeList(v api.Value) int {
	n := sizeNumeral(uint64(len(v.L)))
	for _, x := range v.L {
		n += size(x)
	}
	return n
}

// sizeNumeral counts the digits of u. The number 0 has one digit, as 1 has.
func sizeNumeral(u uint64) int { return (bits.Len64(u|1) + 6) / 7 }

// write appends the encoding of a value that is well-formed.
func write(b []byte, v api.Value) []byte {
	return kinds()[v.Kind].write(append(b, byte(v.Kind)), v)
}

func writeInt(b []byte, v api.Value) []byte { return writeNumeral(b, unsigned(v.N)) }

func writeText(b []byte, v api.Value) []byte {
	return append(writeNumeral(b, uint64(len(v.S))), v.S...)
}

func writeList(b []byte, v api.Value) []byte {
	b = writeNumeral(b, uint64(len(v.L)))
	for _, x := range v.L {
		b = write(b, x)
	}
	return b
}

func writeNumeral(b []byte, u uint64) []byte {
	for u >= 128 {
		b = append(b, byte(u)|128)
		u >>= 7
	}
	return append(b, byte(u))
}

// unsigned returns the unsigned form of n: 2n, with all bits inverted if n is negative.
func unsigned(n int) uint64 { return uint64(n)<<1 ^ uint64(n>>63) }

// signed returns the integer whose unsigned form is u.
func signed(u uint64) int { return int(u>>1) ^ -int(u&1) }
