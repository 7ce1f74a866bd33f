package sign_test

import (
	"bytes"
	"crypto/sha256"
	"encoding/binary"
	"math"
	"math/big"
	"math/rand"
	"slices"
	"testing"

	"fasti/api"
	"fasti/sign"
)

const p, q = api.P, api.Q

// The model: integers of any size, and the SHA-256 and the numerals of Go's library.

func whole(n int) *big.Int { return big.NewInt(int64(n)) }

// raised is the power of an element to an exponent, which may be negative.
func raised(a, n int) int {
	return int(new(big.Int).Exp(whole(a), new(big.Int).Mod(whole(n), whole(q)), whole(p)).Int64())
}

func multiplied(a, b, m int) int {
	x := new(big.Int).Mul(whole(a), whole(b))
	return int(x.Mod(x, whole(m)).Int64())
}

// isElement is the definition of elements.
func isElement(x int) bool {
	return x >= 1 && x < p && new(big.Int).Exp(whole(x), whole(q), whole(p)).Cmp(whole(1)) == 0
}

// list is the encoding of a list of numbers and of a text at its end.
func list(b []byte, numbers ...int) []byte {
	l := []byte{3, byte(len(numbers) + 1)}
	for _, n := range numbers {
		l = binary.AppendVarint(append(l, 1), int64(n))
	}
	return append(binary.AppendUvarint(append(l, 2), uint64(len(b))), b...)
}

func hashed(tag string, b []byte) int {
	first := sha256.Sum256([]byte(tag))
	d := sha256.Sum256(slices.Concat(first[:], b))
	d[0] &= 127
	x := new(big.Int).SetBytes(d[:8])
	return int(x.Mod(x, whole(q)).Int64())
}

func keyOf(secret int) int { return raised(api.G, secret) }

func nonce(secret int, b []byte) int { return max(hashed("nonce", list(b, secret)), 1) }

// made is the signature of a secret with a nonce.
func made(secret, k int, b []byte) api.Sig {
	e := hashed("sign", list(b, raised(api.G, k), keyOf(secret)))
	return api.Sig{E: e, S: (k + multiplied(e, secret, q)) % q}
}

// pointOf is the product of which a signature tells, for any key.
func pointOf(key int, s api.Sig) int { return multiplied(raised(api.G, s.S), raised(key, -s.E), p) }

// isRight is the definition of right signatures.
func isRight(key int, b []byte, s api.Sig) bool {
	if !isElement(key) || s.E < 0 || s.E >= q || s.S < 0 || s.S >= q {
		return false
	}
	return s.E == hashed("sign", list(b, pointOf(key, s), key))
}

// secrets are the least and the greatest ones, and those between at which calculations may go wrong.
func secrets() []int {
	return []int{1, 2, 3, 4, 5, 63, 64, 127, 128, 8191, 8192, 77777, 1 << 20, 123456789, 1<<29 - 1, 1 << 29, q / 2, q/2 + 1, q - 3, q - 2, q - 1}
}

// letters are texts of each length at which a numeral or a block of SHA-256 becomes longer, and texts that differ in little.
func letters() (l [][]byte) {
	for _, n := range []int{0, 1, 2, 3, 20, 30, 40, 50, 63, 64, 65, 127, 128, 129, 300, 16383, 16384} {
		l = append(l, bytes.Repeat([]byte{200, 7, 0}, n)[:n])
	}
	return append(l, []byte{0}, []byte{0, 0}, []byte{255}, []byte("a letter"), []byte("a letter "), []byte("é"), []byte{255, 128, 10}, make([]byte, 1<<16))
}

// outside are integers that are not from 0 to Q - 1; some become one if bits are lost, or modulo Q.
func outside() []int {
	return []int{-1, -2, -5, -q, 1 - q, 5 - q, -p, q, q + 1, q + 5, 2 * q, 2*q + 5, p, p + 5, 1 << 30, 1 << 31, 1 << 32, 1<<32 + 5, -1<<32 + 5, 1 << 62, math.MaxInt / q * q, math.MaxInt, math.MinInt, math.MinInt + 5}
}

// P11.1: signatures that a program in another language made.
func TestSign(t *testing.T) {
	for _, x := range []struct {
		secret int
		b      []byte
		want   api.Sig
	}{
		{1, nil, api.Sig{E: 335203951, S: 472615525}},
		{1, []byte("abc"), api.Sig{E: 808999790, S: 273636453}},
		{2, []byte("abc"), api.Sig{E: 737122368, S: 610902221}},
		{5, []byte{}, api.Sig{E: 253427219, S: 762811539}},
		{5, []byte("abc"), api.Sig{E: 618888591, S: 228313734}},
		{5, []byte("a letter"), api.Sig{E: 352443446, S: 554766534}},
		{5, bytes.Repeat([]byte("x"), 127), api.Sig{E: 204643738, S: 697489921}},
		{5, bytes.Repeat([]byte("x"), 128), api.Sig{E: 111641991, S: 143777263}},
		{64, bytes.Repeat([]byte("x"), 16384), api.Sig{E: 695600596, S: 429336318}},
		{77777, []byte{0}, api.Sig{E: 49590946, S: 751381999}},
		{77777, []byte{0, 0}, api.Sig{E: 989880809, S: 899183080}},
		{123456789, []byte("abc"), api.Sig{E: 900569943, S: 837248180}},
		{1 << 29, []byte{255, 128, 10}, api.Sig{E: 1019207837, S: 1056289347}},
		{q - 1, []byte("abc"), api.Sig{E: 496376384, S: 250546873}},
	} {
		if s, e := sign.Sign(x.secret, x.b); e != api.OK || s != x.want {
			t.Error(x.secret, x.b, s, e)
		}
	}
}

// P11.1, P11.2: signatures are those of the model, and right.
func TestSignOfAny(t *testing.T) {
	r := rand.New(rand.NewSource(1))
	all, texts := secrets(), letters()
	for range 200 {
		b := make([]byte, r.Intn(200))
		r.Read(b)
		all, texts = append(all, 1+r.Intn(q-1)), append(texts, b)
	}
	for i, secret := range all {
		for k, b := range texts {
			if i > 20 && k > 20 && i != k {
				continue
			}
			s, e := sign.Sign(secret, b)
			if e != api.OK || s != made(secret, nonce(secret, b), b) {
				t.Fatal(secret, b, s, e)
			}
			if !sign.Verify(keyOf(secret), b, s) || !isRight(keyOf(secret), b, s) {
				t.Fatal("not right", secret, b, s)
			}
		}
	}
}

// P11.1, P11.2: the chapter has no limit on the length of texts.
func TestSignLong(t *testing.T) {
	b := bytes.Repeat([]byte("long"), 1<<19)
	for _, b := range [][]byte{b[1:], b, append(b, 'x')} {
		s, e := sign.Sign(5, b)
		if e != api.OK || s != made(5, nonce(5, b), b) || !sign.Verify(1024, b, s) {
			t.Error(len(b), s, e)
		}
		if sign.Verify(1024, b[:len(b)-1], s) {
			t.Error("a beginning of the text", len(b))
		}
	}
}

// P11.1: with the error there is no signature, whatever the text is.
func TestSignErrors(t *testing.T) {
	for _, secret := range append(outside(), 0) {
		for _, b := range letters() {
			if s, e := sign.Sign(secret, b); e != api.ErrKey || s != (api.Sig{}) {
				t.Error(secret, len(b), s, e)
			}
		}
	}
}

// P11.1: for these texts, which a search found, the hash for the nonce of the secret 5 is 0, so that the nonce is 1.
func TestSignWithoutNonce(t *testing.T) {
	for text, want := range map[string]api.Sig{"362421958": {E: 410564348, S: 979079952}, "816190229": {E: 690457143, S: 231060349}} {
		b := []byte(text)
		if hashed("nonce", list(b, 5)) != 0 || want != made(5, 1, b) {
			t.Fatal("no such text", text)
		}
		s, e := sign.Sign(5, b)
		if e != api.OK || s != want || !sign.Verify(1024, b, s) || pointOf(1024, s) != api.G {
			t.Error(text, s, e)
		}
	}
}

// P11.1, P11.2, P11.4: for these texts, which a search found, a number of the signature by the secret 5 is the least or the
// greatest one. An integer that is congruent to it is not right in its place.
func TestSignAtTheEdges(t *testing.T) {
	for text, want := range map[string]api.Sig{
		"186127332": {E: 0, S: 682233562}, "65109011": {E: q - 1, S: 150940064}, "1457227169": {E: 982776382, S: 0}, "834390622": {E: 870416670, S: q - 1},
	} {
		b := []byte(text)
		s, e := sign.Sign(5, b)
		if e != api.OK || s != want || !sign.Verify(1024, b, s) {
			t.Error(text, s, e)
		}
		for _, n := range []int{-2 * q, -q, q, 2 * q, math.MaxInt / q / 2 * q} {
			if sign.Verify(1024, b, api.Sig{E: s.E + n, S: s.S}) || sign.Verify(1024, b, api.Sig{E: s.E, S: s.S + n}) {
				t.Error("congruent", text, n)
			}
		}
	}
}

// P11.1, P11.4: nil and empty texts are equal, and no call changes its arguments or what lies behind them.
func TestPure(t *testing.T) {
	a, _ := sign.Sign(7, nil)
	s, _ := sign.Sign(7, []byte{})
	if a != s || !sign.Verify(keyOf(7), nil, s) || !sign.Verify(keyOf(7), []byte{}, a) {
		t.Error("nil and empty")
	}
	b := []byte("some bytes, and others")
	before := bytes.Clone(b)
	first, e := sign.Sign(q-7, b[:5])
	if alone, _ := sign.Sign(q-7, []byte("some ")); alone != first {
		t.Error("what lies behind the text counts")
	}
	for range 3 {
		if s, f := sign.Sign(q-7, b[:5]); s != first || f != e || !sign.Verify(keyOf(q-7), b[:5], s) {
			t.Error("equal calls")
		}
	}
	if !bytes.Equal(b, before) {
		t.Error("the argument was changed")
	}
}
