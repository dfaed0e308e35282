package codec_test

import (
	"bytes"
	"math"
	"strings"
	"testing"

	"backflush/api"
	"backflush/codec"
)

func integer(n int) api.Value { return api.Value{Kind: api.IntV, N: n} }

func text(s string) api.Value { return api.Value{Kind: api.TextV, S: s} }

func list(l ...api.Value) api.Value { return api.Value{Kind: api.ListV, L: l} }

// wrap puts v into so many lists, one within the other.
func wrap(v api.Value, lists int) api.Value {
	for range lists {
		v = list(v)
	}
	return v
}

// digits returns so many bytes 255 between others.
func digits(first []byte, many int, last ...byte) []byte {
	b := append(bytes.Clone(first), bytes.Repeat([]byte{255}, many)...)
	return append(b, last...)
}

// deep is as deep as the limits of the document admit values.
const deep = 1 << 16

type encoded struct {
	name string
	v    api.Value
	b    []byte
}

func encodings() []encoded {
	long := strings.Repeat("x", 16384)
	return []encoded{
		{"0", integer(0), []byte{1, 0}},
		{"1", integer(1), []byte{1, 2}},
		{"-1", integer(-1), []byte{1, 1}},
		{"-3", integer(-3), []byte{1, 5}},
		{"100", integer(100), []byte{1, 200, 1}},
		{"greatest of one digit", integer(63), []byte{1, 126}},
		{"least of one digit", integer(-64), []byte{1, 127}},
		{"least positive of two digits", integer(64), []byte{1, 128, 1}},
		{"greatest negative of two digits", integer(-65), []byte{1, 129, 1}},
		{"greatest of two digits", integer(8191), []byte{1, 254, 127}},
		{"least positive of three digits", integer(8192), []byte{1, 128, 128, 1}},
		{"greatest of nine digits", integer(1<<62 - 1), digits([]byte{1, 254}, 7, 127)},
		{"least positive of ten digits", integer(1 << 62), []byte{1, 128, 128, 128, 128, 128, 128, 128, 128, 128, 1}},
		{"greatest int", integer(math.MaxInt), digits([]byte{1, 254}, 8, 1)},
		{"least int", integer(math.MinInt), digits([]byte{1}, 9, 1)},
		{"least int but one", integer(math.MinInt + 1), digits([]byte{1, 253}, 8, 1)},
		{"empty text", text(""), []byte{2, 0}},
		{"ab", text("ab"), []byte{2, 2, 97, 98}},
		{"bytes that are no runes", text("\xff\x00\x80"), []byte{2, 3, 255, 0, 128}},
		{"longest text with one digit", text(long[:127]), append([]byte{2, 127}, long[:127]...)},
		{"shortest text with two digits", text(long[:128]), append([]byte{2, 128, 1}, long[:128]...)},
		{"shortest text with three digits", text(long), append([]byte{2, 128, 128, 1}, long...)},
		{"empty list", list(), []byte{3, 0}},
		{"100 and ab", list(integer(100), text("ab")), []byte{3, 2, 1, 200, 1, 2, 2, 97, 98}},
		{"order of elements", list(text("ab"), integer(100)), []byte{3, 2, 2, 2, 97, 98, 1, 200, 1}},
		{"list in a list", list(list(), list(integer(0))), []byte{3, 2, 3, 0, 3, 1, 1, 0}},
		{"128 elements", list(make128()...), append([]byte{3, 128, 1}, bytes.Repeat([]byte{1, 0}, 128)...)},
		{"16 lists", wrap(list(), 15), append(bytes.Repeat([]byte{3, 1}, 15), 3, 0)},
		{"16 lists around an integer", wrap(integer(-3), 16), append(bytes.Repeat([]byte{3, 1}, 16), 1, 5)},
	}
}

func make128() []api.Value {
	l := make([]api.Value, 128)
	for i := range l {
		l[i] = integer(0)
	}
	return l
}

func TestP1_1Encode(t *testing.T) {
	for _, x := range encodings() {
		if e := codec.Check(x.v); e != api.OK {
			t.Errorf("%s: Check: %d", x.name, e)
		}
		if b, e := codec.Encode(x.v); e != api.OK || !bytes.Equal(b, x.b) {
			t.Errorf("%s: Encode: %v, %d; want %v", x.name, b, e, x.b)
		}
		if n, e := codec.Size(x.v); e != api.OK || n != len(x.b) {
			t.Errorf("%s: Size: %d, %d; want %d", x.name, n, e, len(x.b))
		}
	}
}

func TestP1_1Errors(t *testing.T) {
	some := []api.Value{integer(0)}
	for _, x := range []struct {
		name string
		v    api.Value
		want api.Errno
	}{
		{"no kind", api.Value{}, api.ErrArg},
		{"kind below", api.Value{Kind: -1}, api.ErrArg},
		{"kind above", api.Value{Kind: 4}, api.ErrArg},
		{"least kind", api.Value{Kind: math.MinInt}, api.ErrArg},
		{"greatest kind", api.Value{Kind: math.MaxInt}, api.ErrArg},
		{"integer with S", api.Value{Kind: api.IntV, N: 1, S: "a"}, api.ErrArg},
		{"integer with L", api.Value{Kind: api.IntV, N: 1, L: some}, api.ErrArg},
		{"text with N", api.Value{Kind: api.TextV, N: 1, S: "a"}, api.ErrArg},
		{"text with L", api.Value{Kind: api.TextV, S: "a", L: some}, api.ErrArg},
		{"list with N", api.Value{Kind: api.ListV, N: 1, L: some}, api.ErrArg},
		{"list with S", api.Value{Kind: api.ListV, S: "a", L: some}, api.ErrArg},
		{"element with no kind", list(integer(0), api.Value{}), api.ErrArg},
		{"element deep inside", wrap(api.Value{Kind: api.TextV, N: 1}, 16), api.ErrArg},
		{"17 lists", wrap(list(), 16), api.ErrLimit},
		{"17 lists around an integer", wrap(integer(0), 17), api.ErrLimit},
		{"17 lists in the last element", list(integer(0), wrap(list(), 15)), api.ErrLimit},
		{"17 lists in the first element", list(wrap(list(), 15), integer(0)), api.ErrLimit},
		{"too deep, then not well-formed", list(wrap(list(), 16), api.Value{}), api.ErrArg},
		{"not well-formed below the limit", wrap(api.Value{}, 17), api.ErrArg},
		{"very deep", wrap(integer(0), deep), api.ErrLimit},
		{"very deep and not well-formed", wrap(api.Value{}, deep), api.ErrArg},
	} {
		if e := codec.Check(x.v); e != x.want {
			t.Errorf("%s: Check: %d, want %d", x.name, e, x.want)
		}
		if b, e := codec.Encode(x.v); e != x.want || len(b) != 0 {
			t.Errorf("%s: Encode: %v, %d, want %d", x.name, b, e, x.want)
		}
		if n, e := codec.Size(x.v); e != x.want || n != 0 {
			t.Errorf("%s: Size: %d, %d, want %d", x.name, n, e, x.want)
		}
	}
}

func TestP1_1NilAndEmpty(t *testing.T) {
	for _, x := range []api.Value{
		{Kind: api.IntV, L: []api.Value{}},
		{Kind: api.TextV, L: []api.Value{}},
		{Kind: api.ListV, L: []api.Value{}},
	} {
		bare := x
		bare.L = nil
		want, _ := codec.Encode(bare)
		if b, e := codec.Encode(x); e != api.OK || !bytes.Equal(b, want) {
			t.Errorf("kind %d: %v, %d", x.Kind, b, e)
		}
	}
}

func TestP1_1NewMemory(t *testing.T) {
	v := list(text("ab"), integer(7))
	first, _ := codec.Encode(v)
	want := bytes.Clone(first)
	for i := range first {
		first[i] = 9
	}
	if b, _ := codec.Encode(v); !bytes.Equal(b, want) || !codec.Same(v, list(text("ab"), integer(7))) {
		t.Error("an encoding shares memory")
	}
}

func TestP1_2Decode(t *testing.T) {
	for _, x := range encodings() {
		if v, e := codec.Decode(x.b); e != api.OK || !codec.Same(v, x.v) {
			t.Errorf("%s: %d", x.name, e)
		}
	}
}

func TestP1_2Errors(t *testing.T) {
	for _, x := range []struct {
		name string
		b    []byte
	}{
		{"no bytes", nil},
		{"empty bytes", []byte{}},
		{"kind 0", []byte{0, 0}},
		{"kind 4", []byte{4, 0}},
		{"kind 255", []byte{255, 0}},
		{"integer without a numeral", []byte{1}},
		{"numeral without a last digit", []byte{1, 128}},
		{"superfluous digit", []byte{1, 128, 0}},
		{"superfluous digit after another", []byte{1, 255, 128, 0}},
		{"superfluous digits", []byte{1, 129, 128, 128, 0}},
		{"superfluous eleventh digit", digits([]byte{1}, 9, 129, 0)},
		{"numeral over 64 bits", digits([]byte{1}, 9, 2)},
		{"numeral over 64 bits by far", digits([]byte{1}, 9, 127)},
		{"eleven digits", digits([]byte{1}, 9, 129, 1)},
		{"a hundred digits", append(append([]byte{1}, bytes.Repeat([]byte{128}, 100)...), 1)},
		{"bytes left over after an integer", []byte{1, 5, 0}},
		{"bytes left over after a text", []byte{2, 0, 0}},
		{"bytes left over after a list", []byte{3, 0, 3, 0}},
		{"text without a length", []byte{2}},
		{"text that ends early", []byte{2, 3, 97}},
		{"text without its bytes", []byte{2, 1}},
		{"superfluous digit of a length", []byte{2, 129, 0, 97}},
		{"greatest length of a text", digits([]byte{2}, 9, 1)},
		{"length of a text over 64 bits", digits([]byte{2}, 9, 2)},
		{"length of a text that is negative as an int", append([]byte{2, 128, 128, 128, 128, 128, 128, 128, 128, 128, 1}, 97)},
		{"list without a length", []byte{3}},
		{"list without its element", []byte{3, 1}},
		{"list that ends in an element", []byte{3, 1, 1}},
		{"list that ends early", []byte{3, 2, 1, 0}},
		{"superfluous digit of a number of elements", []byte{3, 128, 0}},
		{"greatest number of elements", digits([]byte{3}, 9, 1, 1, 0)},
		{"wrong element", []byte{3, 2, 1, 0, 5, 0}},
		{"17 lists", append(bytes.Repeat([]byte{3, 1}, 16), 3, 0)},
		{"17 lists around an integer", append(bytes.Repeat([]byte{3, 1}, 17), 1, 0)},
		{"very many lists", append(bytes.Repeat([]byte{3, 1}, deep), 3, 0)},
	} {
		if v, e := codec.Decode(x.b); e != api.ErrCode || !codec.Same(v, api.Value{}) {
			t.Errorf("%s: %v, %d", x.name, v, e)
		}
	}
}

// Lists that are closed do not count for the depth of the next one.
func TestP1_2DepthOfNeighbours(t *testing.T) {
	v := list(wrap(list(), 14), wrap(list(), 14), wrap(integer(0), 15))
	b, e := codec.Encode(v)
	if e != api.OK {
		t.Fatal(e)
	}
	if w, e := codec.Decode(b); e != api.OK || !codec.Same(v, w) {
		t.Error(w, e)
	}
}

func TestP1_2NewMemory(t *testing.T) {
	b := []byte{3, 2, 2, 2, 97, 98, 3, 1, 1, 5}
	whole := bytes.Clone(b)
	v, e := codec.Decode(b)
	if e != api.OK || !bytes.Equal(b, whole) {
		t.Fatal("the bytes were changed", e)
	}
	for i := range b {
		b[i] = 9
	}
	v.L = append(v.L, integer(1))
	if !codec.Same(v, list(text("ab"), list(integer(-3)), integer(1))) {
		t.Error("a value shares memory with its bytes", v)
	}
}

func TestP1_3Same(t *testing.T) {
	l := []api.Value{
		{}, {Kind: 4}, {Kind: -1}, {N: 1}, {S: "a"}, {L: []api.Value{{}}},
		integer(0), integer(1), integer(-1), {Kind: api.IntV, S: "a"}, {Kind: api.IntV, L: []api.Value{integer(0)}},
		text(""), text("a"), text("b"), text("aa"), {Kind: api.TextV, N: 1},
		list(), list(integer(0)), list(integer(1)), list(integer(0), integer(0)), list(integer(0), integer(1)), list(integer(1), integer(0)),
		list(list()), list(text("")), list(api.Value{}), {Kind: api.ListV, N: 1}, {Kind: api.ListV, S: "a"},
		list(list(integer(1))), list(list(integer(2))), wrap(integer(1), 40), wrap(integer(1), 41), wrap(integer(2), 40),
	}
	for i, a := range l {
		for k, b := range l {
			if codec.Same(a, b) != (i == k) {
				t.Error(i, k, codec.Same(a, b))
			}
		}
	}
}

func TestP1_3NilAndEmpty(t *testing.T) {
	for kind := -1; kind < 5; kind++ {
		a, b := api.Value{Kind: kind}, api.Value{Kind: kind, L: []api.Value{}}
		if !codec.Same(a, b) || !codec.Same(b, a) || !codec.Same(list(a), list(b)) {
			t.Error(kind)
		}
	}
}

func TestP1_3Deep(t *testing.T) {
	if !codec.Same(wrap(integer(1), deep), wrap(integer(1), deep)) || codec.Same(wrap(integer(1), deep), wrap(integer(2), deep)) {
		t.Error("deep values")
	}
}
