package journal

import (
	"bytes"

	"fasti/api"
)

// Where the parts of a sector begin. The checksum is that of the bytes from numberAt to againAt.
const (
	generationAt = 0
	checksumAt   = 4
	numberAt     = 8
	marksAt      = 10
	countAt      = 11
	dataAt       = 12
	againAt      = 124 // the generation once more, so that a torn sector does not have one

	pieceSize = againAt - dataAt
)

// The marks of a piece.
const (
	begins = 1
	ends   = 2
)

// A piece is the part of a record that lies in one sector.
type piece struct {
	generation uint32
	marks      byte
	data       []byte
}

func (p piece) begins() bool { return p.marks&begins != 0 }

func (p piece) ends() bool { return p.marks&ends != 0 }

// fits reports whether a record has such a piece.
func (p piece) fits() bool {
	return p.generation != 0 && p.marks <= begins|ends &&
		(p.ends() || len(p.data) == pieceSize) && (p.begins() || len(p.data) > 0)
}

// continues reports whether a piece belongs to the same record as the one in the sector before.
func (p piece) continues(before piece) bool {
	return p.generation == before.generation && !before.ends() && !p.begins()
}

// sector returns the sector with the number k that holds a piece.
func (p piece) sector(k int) (s [api.SectorSize]byte) {
	generation := digits(p.generation)
	copy(s[generationAt:], generation[:])
	copy(s[againAt:], generation[:])
	s[numberAt], s[numberAt+1] = byte(k>>8), byte(k)
	s[marksAt], s[countAt] = p.marks, byte(len(p.data))
	copy(s[dataAt:againAt], p.data)
	sum := digits(checksum(s[numberAt:againAt]))
	copy(s[checksumAt:], sum[:])
	return s
}

// read returns the piece in the sector with the number k, if the sector is good.
func read(b []byte, k int) (p piece, good bool) {
	count := int(b[countAt])
	if count > pieceSize {
		return piece{}, false
	}
	p = piece{generation: number(b[generationAt:]), marks: b[marksAt], data: b[dataAt : dataAt+count]}
	if !p.fits() {
		return piece{}, false
	}
	// A sector has the form of the document if what would be written for its piece is the same.
	if s := p.sector(k); !bytes.Equal(s[:], b) {
		return piece{}, false
	}
	return p, true
}

// lastGeneration returns the greatest generation of which any sector has a trace, be it torn or damaged.
func lastGeneration(sectors [][]byte) (n uint32) {
	for _, b := range sectors {
		n = max(n, number(b[generationAt:]), number(b[againAt:]))
	}
	return n
}

// number returns the number that the first four bytes represent.
func number(b []byte) (n uint32) {
	for _, v := range b[:4] {
		n = n<<8 | uint32(v)
	}
	return n
}

// digits returns a number as four bytes.
func digits(n uint32) (b [4]byte) {
	for i := range b {
		b[i] = byte(n >> (24 - 8*i))
	}
	return b
}

// checksum returns the checksum of bytes, which is CRC-32 as in Ethernet and in zip files.
func checksum(b []byte) uint32 {
	n := ^uint32(0)
	for _, v := range b {
		n ^= uint32(v)
		for range 8 {
			out := n & 1
			n >>= 1
			if out == 1 {
				n ^= 0xedb88320
			}
		}
	}
	return ^n
}
