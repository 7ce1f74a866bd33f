package sign_test

import (
	"math"
	"math/big"
	"math/rand"
	"testing"

	"fasti/api"
	"fasti/sign"
)

// P11.1: signatures with any nonce are right, 0 among them; and those for the key 1, which is an element, though of no secret from 1 to Q - 1.
func TestVerifyMade(t *testing.T) {
	r := rand.New(rand.NewSource(2))
	for _, secret := range append(secrets(), 0) {
		for _, k := range []int{0, 1, 2, q - 2, q - 1, q / 2, r.Intn(q), r.Intn(q)} {
			for _, b := range letters()[:10] {
				s := made(secret, k, b)
				if !isRight(keyOf(secret), b, s) {
					t.Fatal("the model disagrees with itself")
				}
				if !sign.Verify(keyOf(secret), b, s) {
					t.Error(secret, k, b, s)
				}
			}
		}
	}
	if s := made(0, 0, nil); s.S != 0 || !sign.Verify(1, nil, s) {
		t.Error("the point 1 for the key 1", s)
	}
}

// P11.1: another text, another key, another number, or one in place of the other.
func TestVerifyOthers(t *testing.T) {
	for _, secret := range secrets() {
		key, b := keyOf(secret), []byte("a letter")
		s, _ := sign.Sign(secret, b)
		for _, x := range []api.Sig{
			{}, {E: s.S, S: s.E}, {E: s.E}, {S: s.S}, {E: s.E + 1, S: s.S}, {E: s.E - 1, S: s.S}, {E: s.E, S: s.S + 1}, {E: s.E, S: s.S - 1},
			{E: s.E, S: q - s.S}, {E: q - s.E, S: s.S}, {E: q - s.E, S: q - s.S}, {E: s.E ^ 1<<20, S: s.S}, {E: s.E, S: s.S ^ 1<<20},
		} {
			if sign.Verify(key, b, x) {
				t.Error(secret, x)
			}
		}
		for _, other := range [][]byte{nil, {0}, []byte("a lette"), []byte("a letter "), []byte("A letter"), []byte("a letter\x00"), []byte("rettel a")} {
			if sign.Verify(key, other, s) {
				t.Error(secret, string(other))
			}
		}
		for _, other := range append(secrets(), 0, q-secret) {
			if other != secret && sign.Verify(keyOf(other), b, s) {
				t.Error(secret, other)
			}
		}
	}
}

// P11.1: whatever is asked, the answer is that of the definition.
func TestVerifyOfAny(t *testing.T) {
	r := rand.New(rand.NewSource(3))
	odd := append(outside(), 0, 1, 2, 4, q-1)
	some := func(usual int) int {
		switch r.Intn(6) {
		case 0:
			return odd[r.Intn(len(odd))]
		case 1:
			return int(r.Uint64()) >> r.Intn(64)
		}
		return usual
	}
	right := 0
	for range 20000 {
		secret := r.Intn(q)
		b := make([]byte, r.Intn(20))
		r.Read(b)
		s := made(secret, r.Intn(q), b)
		s, key := api.Sig{E: some(s.E), S: some(s.S)}, some(keyOf(secret))
		want := isRight(key, b, s)
		if want {
			right++
		}
		if sign.Verify(key, b, s) != want {
			t.Error(key, b, s, want)
		}
	}
	if right < 1000 || right > 19000 {
		t.Error("right ones:", right)
	}
}

// P11.4: a number that is not from 0 to Q - 1, be the other one and the point right or not.
func TestVerifyNumbers(t *testing.T) {
	for _, secret := range append(secrets(), 0) {
		key, b := keyOf(secret), []byte("abc")
		s := made(secret, 4711, b)
		l := outside()
		for _, n := range []int{-3, -2, -1, 1, 2, 3, math.MaxInt/q - 1, -(math.MaxInt/q - 1)} {
			l = append(l, s.E+n*q, s.S+n*q)
		}
		for n := 1; n <= 3; n++ {
			l = append(l, s.E+n<<32, s.S+n<<32, s.E-n<<32, s.S-n<<32)
		}
		for _, n := range l {
			for _, x := range []api.Sig{{E: n, S: s.S}, {E: s.E, S: n}, {E: n, S: n}, {E: n}, {S: n}} {
				if sign.Verify(key, b, x) {
					t.Error(secret, x)
				}
			}
		}
	}
}

// P11.4: no element has signatures, even if the hash of the product and of the number itself is E.
func TestVerifyStrangers(t *testing.T) {
	r := rand.New(rand.NewSource(4))
	b := []byte("abc")
	met := 0
	for range 300 {
		secret, k := r.Intn(q), r.Intn(q)
		key := keyOf(secret)
		for _, x := range []int{p - key, key + p, key - p, key + 2*p, key + math.MaxInt/p/2*p, key + 1<<32, -key, 0, p} {
			for _, point := range []int{raised(api.G, k), p - raised(api.G, k), 0} {
				e := hashed("sign", list(b, point, x))
				s := api.Sig{E: e, S: (k + multiplied(e, secret, q)) % q}
				if pointOf(x, s) == point {
					met++ // all but the key is as it has to be
				}
				if isElement(x) || sign.Verify(x, b, s) {
					t.Error(x, s)
				}
			}
		}
	}
	if met < 1000 {
		t.Error("numbers for which E is that hash:", met)
	}
	s, _ := sign.Sign(5, b)
	for _, x := range append(outside(), 0, 2, 6, p-1, p-3, p-4, p-1024, p+1, p+4, p+1024, 1024-p, 2*p+1024, 1<<32+1024) {
		for _, s := range []api.Sig{s, {}, {S: 1}, {E: 1}, {E: q - 1, S: q - 1}} {
			if !isElement(x) && sign.Verify(x, b, s) {
				t.Error("a stranger", x, s)
			}
		}
	}
}

// quotient is that of the differences of S and of E.
func quotient(a, b api.Sig) int {
	up, down := whole(a.S-b.S), whole(a.E-b.E)
	up.Mul(up, new(big.Int).ModInverse(down.Mod(down, whole(q)), whole(q)))
	return int(up.Mod(up, whole(q)).Int64())
}

// P11.3: two texts that are signed with one point give away the secret.
func TestSecret(t *testing.T) {
	r := rand.New(rand.NewSource(5))
	for _, secret := range append(secrets(), 0) {
		key := keyOf(secret)
		for _, k := range []int{0, 1, 2, q - 1, r.Intn(q), r.Intn(q)} {
			var l []api.Sig
			for _, b := range letters()[:8] {
				s := made(secret, k, b)
				if !sign.Verify(key, b, s) || pointOf(key, s) != raised(api.G, k) {
					t.Error("not right", secret, k, b)
				}
				l = append(l, s)
			}
			for i, a := range l {
				for _, b := range l[:i] {
					if a.E == b.E || quotient(a, b) != secret {
						t.Error(secret, k, a, b)
					}
				}
			}
		}
	}
}

// P11.3: what Sign returns for different texts, or by different secrets, has different points.
func TestPoints(t *testing.T) {
	points := map[int]string{}
	for _, secret := range []int{1, 2, 5, 77777, q - 1} {
		var l []api.Sig
		for _, text := range []string{"", "a", "b", "ab", "ba", "aa", "\x00", "\x00\x00", "abc", "a letter", "a letter "} {
			s, _ := sign.Sign(secret, []byte(text))
			point := pointOf(keyOf(secret), s)
			if other, twice := points[point]; twice {
				t.Error("one point", secret, text, other)
			}
			points[point] = text
			for _, other := range l {
				if quotient(s, other) == secret {
					t.Error("the secret is given away", secret, text)
				}
			}
			l = append(l, s)
		}
	}
}
