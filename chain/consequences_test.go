package chain_test

import (
	"bytes"
	"math/rand"
	"testing"

	"fasti/api"
	"fasti/chain"
)

// all returns the chains of a node of n links, each with one of some data.
func all(t *testing.T, node, n int, some ...string) (l [][]api.Link) {
	t.Helper()
	l = [][]api.Link{nil}
	for range n {
		var longer [][]api.Link
		for _, x := range l {
			for _, s := range some {
				y, e := chain.Add(x, node, []byte(s))
				if e != api.OK {
					t.Fatal(e)
				}
				longer = append(longer, y)
			}
		}
		l = longer
	}
	return l
}

// P8.4: what Add returns is a chain, and so is each beginning of it.
func TestBeginnings(t *testing.T) {
	r := rand.New(rand.NewSource(8))
	for range 50 {
		var l []api.Link
		node := r.Intn(24)
		for range r.Intn(12) {
			b := make([]byte, r.Intn(100))
			r.Read(b)
			x, e := chain.Add(l, node, b)
			if e != api.OK || chain.Check(x) != api.OK {
				t.Fatal(e)
			}
			l = x
		}
		for n := range len(l) + 1 {
			if chain.Check(l[:n]) != api.OK || n < len(l) && l[n].Prev != chain.Head(l[:n]) {
				t.Error(node, n)
			}
		}
	}
}

// P8.4: different chains of the same length have different heads, since nobody knows two texts with the same digest.
func TestHeadsDiffer(t *testing.T) {
	met := map[api.Digest][]api.Link{}
	for n := range 5 {
		for node := range 3 {
			for _, l := range all(t, node, n, "", "a", "aa", "b") {
				other, found := met[chain.Head(l)]
				if found && !sameLinks(l, other) {
					t.Error("one head of two chains", node, n)
				}
				met[chain.Head(l)] = l
			}
		}
	}
	if len(met) != 1+3*(4+16+64+256) {
		t.Error(len(met))
	}
}

// P8.4, P8.3: two chains of one node and one length are equal if their heads are, and part otherwise.
func TestHeadsAndParts(t *testing.T) {
	l := all(t, 6, 4, "", "a", "b")
	for _, a := range l {
		for _, b := range l {
			i, ok, e := chain.Part(a, b)
			if e != api.OK || ok == (chain.Head(a) == chain.Head(b)) {
				t.Fatal(i, ok, e)
			}
			if ok && (!sameLinks(a[:i], b[:i]) || bytes.Equal(a[i].Data, b[i].Data)) {
				t.Fatal(i)
			}
		}
	}
}

// P8.4: a chain of which a link is replaced by a different one is none, unless it was the last link.
func TestReplaced(t *testing.T) {
	l := long(3, 8)
	changes := []func(x *api.Link){
		func(x *api.Link) { x.Node = 4 },
		func(x *api.Link) { x.No++ },
		func(x *api.Link) { x.Prev[31] ^= 1 },
		func(x *api.Link) { x.Prev[0] ^= 128 },
		func(x *api.Link) { x.Data = append(x.Data, 0) },
		func(x *api.Link) { x.Data = []byte("quite different") },
		func(x *api.Link) { *x = api.Link{} },
		func(x *api.Link) { x.Data = make([]byte, 65536) },
	}
	for i := range l {
		for k, change := range changes {
			x := replaced(l, i, change)
			if sameLinks(x, l) {
				t.Fatal("nothing was changed", i, k)
			}
			if e := chain.Check(x); e != api.ErrChain && i < len(l)-1 {
				t.Error(i, k, e)
			}
		}
		// A link that would itself continue the beginning before it.
		x, e := chain.Add(l[:i], 3, []byte("another one"))
		if e != api.OK {
			t.Fatal(e)
		}
		y := append(copied(x), l[i+1:]...)
		if e := chain.Check(y); (e == api.OK) != (i == len(l)-1) {
			t.Error(i, e)
		}
	}
}
