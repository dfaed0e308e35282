package codec

import "backflush/api"

// A reader takes values from the beginning of rest. Bytes that are no encoding are a panic, which ends the reading at any depth.
type reader struct {
	rest []byte
	open int
}

func fail() {
	panic(api.ErrCode)
}

func (r *reader) value() api.Value {
	kind := int(r.take(1)[0])
	if kind < api.IntV || kind > api.ListV {
		fail()
	}
	return coders()[kind].read(r)
}

func (r *reader) integer() api.Value {
	return api.Value{Kind: api.IntV, N: signed(r.numeral())}
}

func (r *reader) text() api.Value {
	return api.Value{Kind: api.TextV, S: string(r.take(r.numeral()))}
}

// list makes room for each element only when it is there, because the number of elements may be a lie.
func (r *reader) list() api.Value {
	r.open++
	if r.open > api.MaxDepth {
		fail()
	}
	v := api.Value{Kind: api.ListV}
	for range r.numeral() {
		v.L = append(v.L, r.value())
	}
	r.open--
	return v
}

// numeral fails at digits that do not fit into 64 bits, and at a last digit that is superfluous.
func (r *reader) numeral() (u uint64) {
	for shift := 0; ; shift += 7 {
		b := uint64(r.take(1)[0])
		digit, last := b%base, b < base
		if digit<<shift>>shift != digit || last && digit == 0 && shift > 0 {
			fail()
		}
		u |= digit << shift
		if last {
			return u
		}
	}
}

// take returns the next n bytes. Neither they nor the rest have room behind them, so that no append can reach the bytes of the caller.
func (r *reader) take(n uint64) []byte {
	if n > uint64(len(r.rest)) {
		fail()
	}
	head := r.rest[:n:n]
	r.rest = r.rest[n:len(r.rest):len(r.rest)]
	return head
}

func (r *reader) end() {
	if len(r.rest) > 0 {
		fail()
	}
}
