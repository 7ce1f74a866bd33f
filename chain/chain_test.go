package chain_test

import (
	"bytes"
	"crypto/sha256"
	"encoding/binary"
	"math"
	"slices"
	"testing"

	"fasti/api"
	"fasti/chain"
	"fasti/codec"
	"fasti/digest"
)

// tagged is the digest of a text, by the SHA-256 of Go's library.
func tagged(tag string, b []byte) api.Digest {
	t := sha256.Sum256([]byte(tag))
	return sha256.Sum256(append(t[:], b...))
}

// integer and data are the encodings of chapter 1; Go's library has its numerals, and the unsigned forms of integers.
func integer(n int) []byte { return binary.AppendVarint([]byte{1}, int64(n)) }

func data(b []byte) []byte { return append(binary.AppendUvarint([]byte{2}, uint64(len(b))), b...) }

// head is the head of a list of links, made without the packages of the program.
func head(l []api.Link) api.Digest {
	if len(l) == 0 {
		return tagged("none", nil)
	}
	x := l[len(l)-1]
	return tagged("link", slices.Concat([]byte{3, 4}, integer(x.Node), integer(x.No), data(x.Prev[:]), data(x.Data)))
}

// made is the chain of a node with these data, made without the packages of the program.
func made(node int, all ...[]byte) (l []api.Link) {
	for i, b := range all {
		l = append(l, api.Link{Node: node, No: i, Prev: head(l), Data: b})
	}
	return l
}

// texts is the chain of a node with these data.
func texts(node int, all ...string) []api.Link {
	var l [][]byte
	for _, s := range all {
		l = append(l, []byte(s))
	}
	return made(node, l...)
}

// long is a chain of n links with different data; those of the link 0 are empty.
func long(node, n int) []api.Link {
	var l [][]byte
	for i := range n {
		l = append(l, bytes.Repeat([]byte{byte(i), byte(i >> 8)}, i%7))
	}
	return made(node, l...)
}

func sameLink(x, y api.Link) bool {
	return x.Node == y.Node && x.No == y.No && x.Prev == y.Prev && bytes.Equal(x.Data, y.Data)
}

func sameLinks(a, b []api.Link) bool { return slices.EqualFunc(a, b, sameLink) }

// copied is a list of links that shares no memory with l.
func copied(l []api.Link) (x []api.Link) {
	for _, y := range l {
		y.Data = bytes.Clone(y.Data)
		x = append(x, y)
	}
	return x
}

// replaced is a list in which a link is another one.
func replaced(l []api.Link, i int, change func(x *api.Link)) []api.Link {
	x := copied(l)
	change(&x[i])
	return x
}

// odd are integers that are no numbers of nodes; some become one if bits are lost.
var odd = []int{-1, -2, -23, -24, 24, 25, 100, 1 << 8, 1 << 16, 1<<31 - 1, 1 << 32, 1<<32 + 2, -1 << 32, math.MaxInt, math.MinInt, math.MinInt + 2}

// P8.1: the links of a list are compared with a model in Go's library, whether the list is a chain or not.
func TestHead(t *testing.T) {
	if chain.Head(nil) != tagged("none", nil) || chain.Head([]api.Link{}) != tagged("none", nil) {
		t.Error("no links")
	}
	numbers := append(slices.Clone(odd), 0, 1, 2, 23, 63, 64, 127, 128, 1023)
	for _, node := range numbers {
		for _, no := range numbers {
			x := api.Link{Node: node, No: no, Prev: sha256.Sum256([]byte("prev")), Data: []byte("data")}
			if chain.Head([]api.Link{x}) != head([]api.Link{x}) {
				t.Error(node, no)
			}
			if chain.Head([]api.Link{{Node: 4, Data: []byte("other")}, x}) != head([]api.Link{x}) {
				t.Error("the last link alone counts", node, no)
			}
		}
	}
	for _, n := range []int{0, 1, 127, 128, 16383, 16384, 65536, 65537, 1 << 20} {
		l := []api.Link{{Node: 5, No: 6, Data: bytes.Repeat([]byte{200, 7}, n)[:n]}}
		if chain.Head(l) != head(l) {
			t.Error("bytes of data:", n)
		}
	}
	if chain.Head([]api.Link{{Data: nil}}) != chain.Head([]api.Link{{Data: []byte{}}}) {
		t.Error("nil and empty data")
	}
}

// P8.1: the head of a link as the chapter writes it, by the functions of lower layers.
func TestHeadEncoded(t *testing.T) {
	prev := sha256.Sum256([]byte("prev"))
	b, e := codec.Encode(api.Value{Kind: api.ListV, L: []api.Value{
		{Kind: api.IntV, N: 7}, {Kind: api.IntV, N: 300}, {Kind: api.TextV, S: string(prev[:])}, {Kind: api.TextV, S: "\x00\xffdata"},
	}})
	x := api.Link{Node: 7, No: 300, Prev: prev, Data: []byte("\x00\xffdata")}
	if e != api.OK || chain.Head([]api.Link{x}) != digest.Tagged("link", b) {
		t.Error(e)
	}
}

// P8.1: a long list has a head, and so has one whose earlier data are longer than all limits.
func TestHeadOfAnyList(t *testing.T) {
	l := make([]api.Link, api.MaxOps+5)
	l[0].Data = make([]byte, 1<<20+1)
	l[len(l)-1] = api.Link{Node: -3, No: 9, Data: []byte("z")}
	if chain.Head(l) != head(l) {
		t.Error("more than 1024 links")
	}
}

// P8.1
func TestCheckChains(t *testing.T) {
	if e := chain.Check(nil); e != api.OK {
		t.Error("nil", e)
	}
	if e := chain.Check([]api.Link{}); e != api.OK {
		t.Error("no links", e)
	}
	for node := range 24 {
		for n := range 5 {
			if e := chain.Check(long(node, n)); e != api.OK {
				t.Error(node, n, e)
			}
		}
	}
	for _, n := range []int{1023, 1024} {
		if e := chain.Check(long(9, n)); e != api.OK {
			t.Error(n, e)
		}
	}
	if e := chain.Check(made(1, make([]byte, 65536), nil, make([]byte, 65536))); e != api.OK {
		t.Error("most bytes of data", e)
	}
}

// P8.1: too many links are an ErrLimit, whatever else is wrong with them.
func TestCheckLimit(t *testing.T) {
	l := long(3, 1025)
	if e := chain.Check(l); e != api.ErrLimit {
		t.Error("1025 links that continue each other", e)
	}
	if e := chain.Check(replaced(l, 1, func(x *api.Link) { x.No = 7 })); e != api.ErrLimit {
		t.Error("1025 links that are no chain", e)
	}
	if e := chain.Check(make([]api.Link, 3000)); e != api.ErrLimit {
		t.Error("3000 links", e)
	}
	if e := chain.Check(make([]api.Link, 1024)); e != api.ErrChain {
		t.Error("1024 links that are no chain", e)
	}
}

// P8.1: each Node of a link that is not one of a node, and each one that is not that of the others.
func TestCheckNode(t *testing.T) {
	for _, node := range odd {
		for n := 1; n <= 3; n++ {
			if e := chain.Check(long(node, n)); e != api.ErrChain {
				t.Error("all are", node, n, e)
			}
			l := replaced(long(2, n), n-1, func(x *api.Link) { x.Node = node })
			if e := chain.Check(l); e != api.ErrChain {
				t.Error("the last is", node, n, e)
			}
		}
	}
	for i := 1; i < 4; i++ {
		var l []api.Link
		for k := range 4 {
			x := api.Link{Node: 6, No: k, Prev: head(l)}
			if k >= i {
				x.Node = 7
			}
			l = append(l, x)
		}
		for n := i + 1; n <= 4; n++ {
			if e := chain.Check(l[:n]); e != api.ErrChain {
				t.Error("two nodes, from", i, n, e)
			}
		}
		l[i].Node = 6
		if e := chain.Check(l[:i+1]); e != api.OK {
			t.Error("one node, up to", i, e)
		}
	}
	one := texts(2, "a")
	if e := chain.Check(replaced(one, 0, func(x *api.Link) { x.Node = 23 })); e != api.OK {
		t.Error("a single link may have any node", e)
	}
}

// P8.1: links whose heads fit, but not their indices.
func TestCheckNo(t *testing.T) {
	for _, no := range []int{-1, 1, 2, 1 << 8, 1 << 32, math.MaxInt, math.MinInt} {
		if e := chain.Check([]api.Link{{No: no, Prev: head(nil)}}); e != api.ErrChain {
			t.Error("first", no, e)
		}
	}
	for _, no := range []int{-1, 0, 2, 3, 1<<8 + 1, 1<<32 + 1, math.MaxInt, math.MinInt + 1} {
		l := long(0, 1)
		l = append(l, api.Link{No: no, Prev: head(l)})
		if e := chain.Check(l); e != api.ErrChain {
			t.Error("second", no, e)
		}
		l = append(l, api.Link{No: 2, Prev: head(l)})
		if e := chain.Check(l); e != api.ErrChain {
			t.Error("second of three", no, e)
		}
	}
	var l []api.Link // numbered from 1
	for i := range 3 {
		l = append(l, api.Link{No: i + 1, Prev: head(l)})
	}
	if e := chain.Check(l); e != api.ErrChain {
		t.Error("from 1", e)
	}
}

// P8.1: each byte of Prev counts, also that of the first link.
func TestCheckPrev(t *testing.T) {
	l := texts(4, "a", "b", "c")
	for i := range l {
		for k := range l[i].Prev {
			for _, bit := range []byte{1, 128} {
				wrong := replaced(l, i, func(x *api.Link) { x.Prev[k] ^= bit })
				for n := i + 1; n <= 3; n++ {
					if e := chain.Check(wrong[:n]); e != api.ErrChain {
						t.Error(i, k, n, e)
					}
				}
			}
		}
		if e := chain.Check(replaced(l[:i+1], i, func(x *api.Link) { x.Prev = api.Digest{} })); e != api.ErrChain {
			t.Error("zero", i, e)
		}
	}
	for i := 1; i < len(l); i++ {
		if e := chain.Check(replaced(l, i, func(x *api.Link) { x.Prev = head(nil) })); e != api.ErrChain {
			t.Error("the head of no links", i, e)
		}
	}
	if e := chain.Check(replaced(l, 2, func(x *api.Link) { x.Prev = l[1].Prev })); e != api.ErrChain {
		t.Error("the head before the last one", e)
	}
}

// P8.1: links with one byte too many, the heads of which fit.
func TestCheckData(t *testing.T) {
	for _, n := range []int{65537, 70000, 1 << 20} {
		for i := range 3 {
			all := [][]byte{nil, []byte("b"), nil}
			all[i] = make([]byte, n)
			if e := chain.Check(made(8, all...)); e != api.ErrChain {
				t.Error(n, i, e)
			}
		}
	}
}

// P8.1, P8.4: links that are left out, repeated or exchanged, and data that were changed.
func TestCheckTampered(t *testing.T) {
	l := long(11, 6)
	for i := range l {
		if e := chain.Check(slices.Delete(copied(l), i, i+1)); e != api.ErrChain && i < 5 {
			t.Error("without", i, e)
		}
		if e := chain.Check(slices.Insert(copied(l), i, l[i])); e != api.ErrChain {
			t.Error("twice", i, e)
		}
		for k := range i {
			x := copied(l)
			x[i], x[k] = x[k], x[i]
			if e := chain.Check(x); e != api.ErrChain {
				t.Error("exchanged", i, k, e)
			}
		}
		x := replaced(l, i, func(x *api.Link) { x.Data = append(x.Data, 0) })
		if e := chain.Check(x); (e == api.ErrChain) != (i < 5) {
			t.Error("a further byte", i, e)
		}
	}
	if e := chain.Check(l[1:]); e != api.ErrChain {
		t.Error("an end of a chain", e)
	}
}

// P8.2
func TestAdd(t *testing.T) {
	for node := range 24 {
		var l []api.Link
		for i, s := range []string{"a", "", "ccc", "a", "\x00"} {
			x, e := chain.Add(l, node, []byte(s))
			if e != api.OK || !sameLinks(x, append(copied(l), api.Link{Node: node, No: i, Prev: head(l), Data: []byte(s)})) {
				t.Fatal(node, i, e)
			}
			if e := chain.Check(x); e != api.OK {
				t.Error(node, i, e)
			}
			l = x
		}
	}
	for _, none := range [][]api.Link{nil, {}} {
		x, e := chain.Add(none, 0, nil)
		if e != api.OK || len(x) != 1 || x[0].Prev != digest.Tagged("none", nil) || len(x[0].Data) != 0 {
			t.Error("the first link", e)
		}
		y, e := chain.Add(none, 0, []byte{})
		if e != api.OK || !sameLinks(x, y) {
			t.Error("nil and empty data", e)
		}
	}
}

// refused reports whether Add returned an error, and no links.
func refused(l []api.Link, node int, b []byte, want api.Errno) bool {
	x, e := chain.Add(l, node, b)
	return e == want && len(x) == 0
}

// P8.2: the error of Check comes first, then those of the arguments, then that of a full chain.
func TestAddErrors(t *testing.T) {
	most, more := make([]byte, 65536), make([]byte, 65537)
	l := texts(2, "a", "b")
	for _, node := range append(slices.Clone(odd), 0, 1, 3, 23) {
		if !refused(l, node, nil, api.ErrArg) || !refused(l[:1], node, nil, api.ErrArg) {
			t.Error("another node", node)
		}
	}
	for _, node := range odd {
		if !refused(nil, node, nil, api.ErrArg) || !refused([]api.Link{}, node, most, api.ErrArg) {
			t.Error("no node", node)
		}
	}
	if x, e := chain.Add(l, 2, most); e != api.OK || len(x) != 3 || len(x[2].Data) != 65536 || chain.Check(x) != api.OK {
		t.Error("most bytes", e)
	}
	for _, n := range []int{65537, 65538, 1 << 20} {
		if !refused(l, 2, make([]byte, n), api.ErrArg) || !refused(nil, 2, make([]byte, n), api.ErrArg) {
			t.Error("bytes:", n)
		}
	}
	wrong := replaced(l, 0, func(x *api.Link) { x.Data = nil })
	full, over := long(2, 1024), long(2, 1025)
	for _, x := range []struct {
		l    []api.Link
		node int
		b    []byte
		want api.Errno
	}{
		{wrong, 2, nil, api.ErrChain}, {wrong, 24, nil, api.ErrChain}, {wrong, 3, more, api.ErrChain}, {l[1:], 2, nil, api.ErrChain},
		{full, 2, nil, api.ErrLimit}, {full, 2, most, api.ErrLimit}, {full, 2, more, api.ErrArg}, {full, 3, nil, api.ErrArg},
		{full, -1, nil, api.ErrArg}, {full, 24, more, api.ErrArg},
		{over, 2, nil, api.ErrLimit}, {over, 3, nil, api.ErrLimit}, {over, 2, more, api.ErrLimit}, {over, -1, more, api.ErrLimit},
		{make([]api.Link, 1024), 0, nil, api.ErrChain}, {make([]api.Link, 1025), 0, nil, api.ErrLimit},
	} {
		if !refused(x.l, x.node, x.b, x.want) {
			t.Error(len(x.l), x.node, len(x.b), x.want)
		}
	}
	if x, e := chain.Add(full[:1023], 2, full[1023].Data); e != api.OK || !sameLinks(x, full) {
		t.Error("the last link that a chain can have", e)
	}
}

// P8.2, R2: what lies behind a list is not touched, and results do not disturb each other.
func TestAddPure(t *testing.T) {
	l := texts(5, "a", "b", "c", "d")
	before := copied(l)
	x, e := chain.Add(l[:2], 5, []byte("x"))
	y, f := chain.Add(l[:2], 5, []byte("y"))
	if e != api.OK || f != api.OK || !sameLinks(l, before) {
		t.Error("the links behind a list", e, f)
	}
	if !sameLinks(x, texts(5, "a", "b", "x")) || !sameLinks(y, texts(5, "a", "b", "y")) {
		t.Error("two lists that continue one")
	}
	v, e := chain.Add(x, 5, []byte("v"))
	w, f := chain.Add(x, 5, []byte("w"))
	if e != api.OK || f != api.OK || !sameLinks(v, texts(5, "a", "b", "x", "v")) || !sameLinks(w, texts(5, "a", "b", "x", "w")) {
		t.Error("two lists that continue a result", e, f)
	}
	b := []byte("data and more")
	if z, e := chain.Add(nil, 1, b[:4]); e != api.OK || string(z[0].Data) != "data" || string(b) != "data and more" {
		t.Error("the bytes behind data", e)
	}
	room := make([]api.Link, 0, 4)
	first, e := chain.Add(room, 1, []byte("1"))
	second, f := chain.Add(room, 1, []byte("2"))
	if e != api.OK || f != api.OK || string(first[0].Data) != "1" || string(second[0].Data) != "2" || !sameLink(room[:1][0], api.Link{}) {
		t.Error("an empty list with room", e, f)
	}
}

// P8.3: chains of all lengths that part at each index, or of which one begins with the other one.
func TestPart(t *testing.T) {
	l := long(3, 7)
	for from := range 7 {
		all := [][]byte{}
		for i, x := range l {
			if i >= from {
				x.Data = append([]byte("other"), x.Data...)
			}
			all = append(all, x.Data)
		}
		m := made(3, all...)
		for n := range 8 {
			for k := range 8 {
				want, differ := from, n > from && k > from
				if !differ {
					want = 0
				}
				if i, ok, e := chain.Part(l[:n], m[:k]); e != api.OK || ok != differ || i != want {
					t.Error(from, n, k, i, ok, e)
				}
				if i, ok, e := chain.Part(l[:n], l[:k]); e != api.OK || ok || i != 0 {
					t.Error("beginnings", n, k, i, ok, e)
				}
			}
		}
	}
}

// P8.3: data may be the same ones again after the index at which chains part, which is the least one.
func TestPartLeast(t *testing.T) {
	for _, x := range []struct {
		a, b []api.Link
		want int
	}{
		{texts(1, "a", "b"), texts(1, "x", "b"), 0},
		{texts(1, "a", "b", "c"), texts(1, "a", "", "c"), 1},
		{texts(1, "a", "b", "c"), texts(1, "b", "a", "c"), 0},
		{texts(1, "a", "b"), texts(1, "a", "bb", "b"), 1},
		{texts(1, "a"), texts(1, "A", "b", "c", "d"), 0},
		{texts(1, "same\x00"), texts(1, "same"), 0},
	} {
		i, ok, e := chain.Part(x.a, x.b)
		j, too, f := chain.Part(x.b, x.a)
		if e != api.OK || f != api.OK || !ok || !too || i != x.want || j != x.want {
			t.Error(i, ok, e, j, too, f, x.want)
		}
	}
	a, b := long(2, 1024), long(2, 1024)
	b[1023].Data = []byte("other")
	if i, ok, e := chain.Part(a, b); e != api.OK || !ok || i != 1023 {
		t.Error("the last of most links", i, ok, e)
	}
}

// P8.3: no links have no node; nil and empty data are equal.
func TestPartNone(t *testing.T) {
	a := texts(1, "a", "", "c")
	b := copied(a)
	a[1].Data, b[1].Data = nil, []byte{}
	for _, x := range [][2][]api.Link{{a, a}, {a, b}, {nil, a}, {a, nil}, {nil, nil}, {{}, nil}, {{}, a}, {texts(9, "z"), {}}} {
		if i, ok, e := chain.Part(x[0], x[1]); e != api.OK || ok || i != 0 {
			t.Error(i, ok, e)
		}
	}
}

// P8.3: the error of the first list comes before that of the second one, and both before different nodes.
func TestPartErrors(t *testing.T) {
	a, other := texts(1, "a", "b"), texts(2, "a", "b")
	wrong, over := a[1:], long(2, 1025)
	for i, x := range []struct {
		a, b []api.Link
		want api.Errno
	}{
		{a, other, api.ErrChain}, {other, a, api.ErrChain}, {a[:1], other, api.ErrChain}, {texts(0, ""), texts(23, ""), api.ErrChain},
		{a, wrong, api.ErrChain}, {wrong, a, api.ErrChain}, {wrong, wrong, api.ErrChain}, {nil, wrong, api.ErrChain}, {wrong, nil, api.ErrChain},
		{a, over, api.ErrLimit}, {over, a, api.ErrLimit}, {nil, over, api.ErrLimit}, {over, nil, api.ErrLimit}, {over, over, api.ErrLimit},
		{wrong, over, api.ErrChain}, {over, wrong, api.ErrLimit}, {other, over, api.ErrLimit},
	} {
		if at, ok, e := chain.Part(x.a, x.b); e != x.want || ok || at != 0 {
			t.Error(i, at, ok, e)
		}
	}
	// Links that are different before something is wrong in one of the lists.
	b := replaced(texts(1, "x", "y", "z"), 2, func(x *api.Link) { x.No = 1 })
	if at, ok, e := chain.Part(a, b); e != api.ErrChain || ok || at != 0 {
		t.Error(at, ok, e)
	}
	if at, ok, e := chain.Part(a, b[:2]); e != api.OK || !ok || at != 0 {
		t.Error(at, ok, e)
	}
}

// R2: no function changes what it is given.
func TestPure(t *testing.T) {
	a, b := long(3, 5), texts(3, "a", "b")
	x, y := copied(a), copied(b)
	for range 2 {
		chain.Check(a)
		chain.Head(a)
		chain.Add(a, 3, []byte("z"))
		chain.Part(a, b)
		chain.Part(b, a)
	}
	if !sameLinks(a, x) || !sameLinks(b, y) {
		t.Error("arguments were changed")
	}
}
