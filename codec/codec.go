// Package codec encodes values canonically: each value has exactly one encoding.
package codec

import (
	"slices"

	"backflush/api"
)

// Check returns ErrArg unless v is well-formed, and ErrLimit if its depth is greater than MaxDepth.
func Check(v api.Value) (e api.Errno) {
	depth, ok := measure(v)
	switch {
	case !ok:
		return api.ErrArg
	case depth > api.MaxDepth:
		return api.ErrLimit
	}
	return api.OK
}

// Encode returns the encoding of v, or the error of Check.
func Encode(v api.Value) (b []byte, e api.Errno) {
	if e := Check(v); e != api.OK {
		return nil, e
	}
	return write(make([]byte, 0, size(v)), v), api.OK
}

// Size returns the number of bytes of the encoding of v, or the error of Check.
func Size(v api.Value) (n int, e api.Errno) {
	if e := Check(v); e != api.OK {
		return 0, e
	}
	return size(v), api.OK
}

// Decode returns the value whose encoding is b, or ErrCode if there is none.
func Decode(b []byte) (v api.Value, e api.Errno) {
	defer func() {
		if recover() != nil {
			v, e = api.Value{}, api.ErrCode
		}
	}()
	r := reader{rest: b}
	v = r.value()
	r.end()
	return v, api.OK
}

// Same reports whether a and b are equal in all fields; they need not be well-formed.
func Same(a, b api.Value) (same bool) {
	return a.Kind == b.Kind && a.N == b.N && a.S == b.S && slices.EqualFunc(a.L, b.L, Same)
}

// measure returns the depth of v, and whether v is well-formed. It looks at all of v however deep it is, because a value that is not well-formed is ErrArg even where it is too deep as well.
func measure(v api.Value) (depth int, ok bool) {
	if !bare(v) {
		return 0, false
	}
	for _, element := range v.L {
		d, ok := measure(element)
		if !ok {
			return 0, false
		}
		depth = max(depth, d)
	}
	if v.Kind == api.ListV {
		depth++
	}
	return depth, true
}

// bare reports whether v has a kind, and nothing in the fields that its kind does not use.
func bare(v api.Value) bool {
	switch v.Kind {
	case api.IntV:
		return v.S == "" && len(v.L) == 0
	case api.TextV:
		return v.N == 0 && len(v.L) == 0
	case api.ListV:
		return v.N == 0 && v.S == ""
	}
	return false
}
