package lex

import "fasti/api"

// Classes of bytes. With a byte of one of the classes letter, digit and sign
// a token begins whose kind has the same number.
const (
	other  = 0
	letter = api.NameT
	digit  = api.NumberT
	sign   = api.SignT
	space  = 4
	link   = 5 // continues a name, and begins nothing

	classCount = 6
)

// classes are the classes of the bytes below 128. All further bytes are of the class other.
var classes = [128]uint8{
	'\t': space, '\n': space, '\r': space, ' ': space,

	'{': sign, '}': sign, '(': sign, ')': sign, ';': sign, ',': sign, '=': sign, ':': sign,
	'.': sign, '<': sign, '>': sign, '!': sign, '+': sign, '-': sign, '*': sign, '/': sign,

	'0': digit, '1': digit, '2': digit, '3': digit, '4': digit,
	'5': digit, '6': digit, '7': digit, '8': digit, '9': digit,

	'A': letter, 'B': letter, 'C': letter, 'D': letter, 'E': letter, 'F': letter, 'G': letter,
	'H': letter, 'I': letter, 'J': letter, 'K': letter, 'L': letter, 'M': letter, 'N': letter,
	'O': letter, 'P': letter, 'Q': letter, 'R': letter, 'S': letter, 'T': letter, 'U': letter,
	'V': letter, 'W': letter, 'X': letter, 'Y': letter, 'Z': letter,

	'a': letter, 'b': letter, 'c': letter, 'd': letter, 'e': letter, 'f': letter, 'g': letter,
	'h': letter, 'i': letter, 'j': letter, 'k': letter, 'l': letter, 'm': letter, 'n': letter,
	'o': letter, 'p': letter, 'q': letter, 'r': letter, 's': letter, 't': letter, 'u': letter,
	'v': letter, 'w': letter, 'x': letter, 'y': letter, 'z': letter,

	'_': link,
}

func classOf(b byte) uint8 {
	if int(b) >= len(classes) {
		return other
	}
	return classes[b]
}

func inSpace(class uint8) bool { return class == space }

func inNumber(class uint8) bool { return class == digit }

func inName(class uint8) bool { return class == letter || class == digit || class == link }

// endOf returns where the bytes end that follow from a place on, and whose classes belong together.
func endOf(src string, at int, belongs func(class uint8) bool) int {
	for at < len(src) && belongs(classOf(src[at])) {
		at++
	}
	return at
}
