package chain

import (
	"bytes"
	"iter"

	"fasti/api"
	"fasti/codec"
)

// beginnings yields the beginnings of a list of links after which a link follows, with their heads.
func beginnings(l []api.Link) iter.Seq2[[]api.Link, api.Digest] {
	return func(yield func(part []api.Link, head api.Digest) bool) {
		for n := range l {
			if !yield(l[:n], Head(l[:n])) {
				return
			}
		}
	}
}

// continues reports whether a chain with a further link is a chain, but for the number of links.
func continues(l []api.Link, head api.Digest, x api.Link) bool {
	if len(l) > 0 && x.Node != l[0].Node {
		return false
	}
	return x.Node >= 0 && x.Node < api.MaxNodes && x.No == len(l) && x.Prev == head && len(x.Data) <= api.MaxSource
}

func same(x, y api.Link) bool {
	return x.Node == y.Node && x.No == y.No && x.Prev == y.Prev && bytes.Equal(x.Data, y.Data)
}

// first returns the least index of an element that meets a condition, and whether there is one.
func first[T any](l []T, meets func(i int, x T) bool) (i int, found bool) {
	for i, x := range l {
		if meets(i, x) {
			return i, true
		}
	}
	return 0, false
}

func number(n int) api.Value { return api.Value{Kind: api.IntV, N: n} }

func bytesOf(b []byte) api.Value { return api.Value{Kind: api.TextV, S: string(b)} }

// text returns the encoding of a list of values, each of which is a number or a text; all of these can be encoded.
func text(parts ...api.Value) []byte {
	b, _ := codec.Encode(api.Value{Kind: api.ListV, L: parts})
	return b
}
