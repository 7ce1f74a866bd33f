package digest

import (
	"math/bits"

	"fasti/api"
)

const blockSize = 64

// roundNumbers are the numbers K of the document, one for each round of a block.
var roundNumbers = [64]uint32{
	0x428a2f98, 0x71374491, 0xb5c0fbcf, 0xe9b5dba5, 0x3956c25b, 0x59f111f1, 0x923f82a4, 0xab1c5ed5,
	0xd807aa98, 0x12835b01, 0x243185be, 0x550c7dc3, 0x72be5d74, 0x80deb1fe, 0x9bdc06a7, 0xc19bf174,
	0xe49b69c1, 0xefbe4786, 0x0fc19dc6, 0x240ca1cc, 0x2de92c6f, 0x4a7484aa, 0x5cb0a9dc, 0x76f988da,
	0x983e5152, 0xa831c66d, 0xb00327c8, 0xbf597fc7, 0xc6e00bf3, 0xd5a79147, 0x06ca6351, 0x14292967,
	0x27b70a85, 0x2e1b2138, 0x4d2c6dfc, 0x53380d13, 0x650a7354, 0x766a0abb, 0x81c2c92e, 0x92722c85,
	0xa2bfe8a1, 0xa81a664b, 0xc24b8b70, 0xc76c51a3, 0xd192e819, 0xd6990624, 0xf40e3585, 0x106aa070,
	0x19a4c116, 0x1e376c08, 0x2748774c, 0x34b0bcb5, 0x391c0cb3, 0x4ed8aa4a, 0x5b9cca4f, 0x682e6ff3,
	0x748f82ee, 0x78a5636f, 0x84c87814, 0x8cc70208, 0x90befffa, 0xa4506ceb, 0xbef9a3f7, 0xc67178f2,
}

// A state is what SHA-256 keeps between two blocks.
type state struct{ h [8]uint32 }

func begin() *state {
	return &state{h: [8]uint32{
		0x6a09e667, 0xbb67ae85, 0x3c6ef372, 0xa54ff53a, 0x510e527f, 0x9b05688c, 0x1f83d9ab, 0x5be0cd19,
	}}
}

// absorb changes the state by a block of 64 bytes.
func (s *state) absorb(block []byte) {
	w := schedule(block)
	a, b, c, d, e, f, g, h := s.h[0], s.h[1], s.h[2], s.h[3], s.h[4], s.h[5], s.h[6], s.h[7]
	for t := range 64 {
		p := h + (ror(e, 6) ^ ror(e, 11) ^ ror(e, 25)) + (e&f ^ ^e&g) + roundNumbers[t] + w[t]
		q := (ror(a, 2) ^ ror(a, 13) ^ ror(a, 22)) + (a&b ^ a&c ^ b&c)
		h, g, f, e, d, c, b, a = g, f, e, d+p, c, b, a, p+q
	}
	for i, v := range [8]uint32{a, b, c, d, e, f, g, h} {
		s.h[i] += v
	}
}

// schedule returns the words of a block, and those that follow from them.
func schedule(block []byte) (w [64]uint32) {
	for i := range 16 {
		for _, v := range block[4*i : 4*i+4] {
			w[i] = w[i]<<8 | uint32(v)
		}
	}
	for t := 16; t < 64; t++ {
		x, y := w[t-15], w[t-2]
		w[t] = w[t-16] + (ror(x, 7) ^ ror(x, 18) ^ x>>3) + w[t-7] + (ror(y, 17) ^ ror(y, 19) ^ y>>10)
	}
	return w
}

func ror(v uint32, n int) uint32 { return bits.RotateLeft32(v, -n) }

// digest returns the words of the state as bytes.
func (s *state) digest() (d api.Digest) {
	for i := range d {
		d[i] = byte(s.h[i/4] >> (24 - i%4*8))
	}
	return d
}

// padded returns the last padded bytes of n bytes, of which tail are those after the whole blocks.
// Only these are copied, since there may be many whole blocks.
func padded(tail []byte, n int) []byte {
	b := make([]byte, 0, 2*blockSize)
	b = append(b, tail...)
	b = append(b, 0x80)
	for len(b)%blockSize != blockSize-8 {
		b = append(b, 0)
	}
	length := uint64(n) * 8
	for i := range 8 {
		b = append(b, byte(length>>(56-8*i)))
	}
	return b
}
