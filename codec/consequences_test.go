package codec_test

import (
	"bytes"
	"math/rand"
	"slices"
	"testing"

	"backflush/api"
	"backflush/codec"
)

// random returns a well-formed value that is at most so deep.
func random(r *rand.Rand, depth int) api.Value {
	switch kind := r.Intn(3) + 1; {
	case kind == api.ListV && depth > 0:
		v := list()
		for range r.Intn(5) {
			v.L = append(v.L, random(r, depth-1))
		}
		return v
	case kind == api.TextV:
		b := make([]byte, r.Intn(4)*r.Intn(60))
		r.Read(b)
		return text(string(b))
	}
	return integer(int(r.Uint64()) >> r.Intn(64))
}

// values returns small values of all shapes, all of them different, and random ones.
func values() []api.Value {
	small := []api.Value{integer(0), integer(-1), integer(64), text(""), text("\x01"), text("\x01\x00"), list()}
	all := slices.Clone(small)
	for _, a := range small {
		all = append(all, list(a), list(list(a)))
		for _, b := range small {
			all = append(all, list(a, b), list(list(a), b), list(a, list(b)), list(list(a, b)))
		}
	}
	r := rand.New(rand.NewSource(1))
	for range 300 {
		all = append(all, random(r, r.Intn(api.MaxDepth)))
	}
	return all
}

func encode(t *testing.T, v api.Value) []byte {
	t.Helper()
	b, e := codec.Encode(v)
	if e != api.OK {
		t.Fatal(v, e)
	}
	return b
}

func TestP1_4DecodeOfEncode(t *testing.T) {
	for _, v := range values() {
		if w, e := codec.Decode(encode(t, v)); e != api.OK || !codec.Same(v, w) {
			t.Error(v, w, e)
		}
	}
}

// All strings of at most three bytes whose first byte is small: exactly the encodings are decoded. There are 128 * 128 integers and 1 + 256 texts of that size, and one list.
func TestP1_4EncodeOfDecode(t *testing.T) {
	many := 0
	examine := func(b []byte) {
		v, e := codec.Decode(b)
		if e == api.ErrCode {
			return
		}
		many++
		if w, f := codec.Encode(v); e != api.OK || f != api.OK || !bytes.Equal(b, w) {
			t.Error(b, v, e, w, f)
		}
	}
	for first := range 5 {
		examine([]byte{byte(first)})
		for second := range 256 {
			examine([]byte{byte(first), byte(second)})
			for third := range 256 {
				examine([]byte{byte(first), byte(second), byte(third)})
			}
		}
	}
	if want := 128*128 + 1 + 256 + 1; many != want {
		t.Error(many, want)
	}
}

// Encodings with a byte changed, left out or put in are no encodings, or those of other values.
func TestP1_4ChangedBytes(t *testing.T) {
	r := rand.New(rand.NewSource(2))
	for _, v := range values() {
		b := encode(t, v)
		at := r.Intn(len(b))
		other := byte(r.Intn(256))
		for _, x := range [][]byte{
			slices.Replace(slices.Clone(b), at, at+1, other),
			slices.Delete(slices.Clone(b), at, at+1),
			slices.Insert(slices.Clone(b), at, other),
		} {
			w, e := codec.Decode(x)
			if e == api.OK && (!bytes.Equal(encode(t, w), x) || codec.Same(v, w) != bytes.Equal(b, x)) {
				t.Error(b, x)
			}
			if e != api.OK && (e != api.ErrCode || !codec.Same(w, api.Value{})) {
				t.Error(b, x, w, e)
			}
		}
	}
}

func TestP1_4NoBeginningOfAnother(t *testing.T) {
	all := values()
	codes := make([][]byte, len(all))
	for i, v := range all {
		codes[i] = encode(t, v)
	}
	for i, a := range codes {
		for k, b := range codes {
			if bytes.HasPrefix(b, a) != codec.Same(all[i], all[k]) {
				t.Error(all[i], all[k])
			}
		}
	}
}

func TestP1_4SizeOfList(t *testing.T) {
	size := func(v api.Value) int {
		n, e := codec.Size(v)
		if e != api.OK || n != len(encode(t, v)) {
			t.Error(v, n, e)
		}
		return n
	}
	all := values()
	for many := range 300 {
		elements := all[:many]
		zeros := make([]api.Value, many)
		sum := 0
		for i, v := range elements {
			zeros[i] = integer(0)
			sum += size(v) - size(integer(0))
		}
		if got, want := size(list(elements...)), size(list(zeros...))+sum; got != want {
			t.Error(many, got, want)
		}
	}
}
