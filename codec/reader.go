package codec

import "fasti/api"

// A reader reads an encoding. It reports what is wrong by a panic, which Decode recovers.
type reader struct{ rest []byte }

// take reads n bytes.
func (r *reader) take(n uint64) []byte {
	all := len(r.rest)
	if n > uint64(all) {
		panic(api.ErrCode)
	}
	b := r.rest[:n:n]
	r.rest = r.rest[n:all:all]
	return b
}

// value reads a value whose depth is at most depth.
func (r *reader) value(depth int) api.Value {
	switch r.take(1)[0] {
	case api.IntV:
		return api.Value{Kind: api.IntV, N: signed(r.numeral())}
	case api.TextV:
		return api.Value{Kind: api.TextV, S: string(r.take(r.numeral()))}
	case api.ListV:
		return api.Value{Kind: api.ListV, L: r.list(depth)}
	}
	panic(api.ErrCode)
}

// list reads the elements of a list whose depth is at most depth. Their number
// may be a lie, so that memory is taken for the elements that were read only.
func (r *reader) list(depth int) (l []api.Value) {
	if depth == 0 {
		panic(api.ErrCode)
	}
	for range r.numeral() {
		l = append(l, r.value(depth-1))
	}
	return l
}

// numeral reads a numeral. Its last digit is not 0 unless it is the only one,
// and the tenth digit has place for one bit.
func (r *reader) numeral() (u uint64) {
	for shift := 0; ; shift += 7 {
		d := r.take(1)[0]
		if shift == 63 && d > 1 || shift > 0 && d == 0 {
			panic(api.ErrCode)
		}
		u |= uint64(d&127) << shift
		if d < 128 {
			return u
		}
	}
}
