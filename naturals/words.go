package naturals

import (
	"cmp"
	"iter"
	"slices"
	"strings"
)

const (
	wordBytes = 4
	wordBits  = 8 * wordBytes
	mostWord  = 1<<wordBits - 1
	zeroByte  = "\x00"
)

// A number is the words of a natural number, the least significant one first. The last one is not 0, unless a comment says otherwise.
type number []uint32

// numberOf returns the number with this value.
func numberOf(value uint64) number {
	return number{uint32(value), uint32(value >> wordBits)}.trimmed()
}

// parsed returns the number of a natural number.
func parsed(s string) number {
	x := make(number, (len(s)+wordBytes-1)/wordBytes)
	for i := range len(s) {
		after := len(s) - 1 - i
		x[after/wordBytes] |= uint32(s[i]) << (8 * (after % wordBytes))
	}
	return x
}

// text returns the natural number of x.
func (x number) text() string {
	b := make([]byte, 0, len(x)*wordBytes)
	for _, w := range slices.Backward(x) {
		b = append(b, byte(w>>24), byte(w>>16), byte(w>>8), byte(w))
	}
	return strings.TrimLeft(string(b), zeroByte)
}

// value returns the value of x, which has at most two words.
func (x number) value() uint64 {
	return uint64(x.word(1))<<wordBits | uint64(x.word(0))
}

// word returns the word with the index i; behind the last one there are only zeros.
func (x number) word(i int) uint32 {
	if i < len(x) {
		return x[i]
	}
	return 0
}

// trimmed returns x without the zeros at its end.
func (x number) trimmed() number {
	for len(x) > 0 && x[len(x)-1] == 0 {
		x = x[:len(x)-1]
	}
	return x
}

// bits yields the bits of the words of x, the most significant one first.
func (x number) bits() iter.Seq[bool] {
	return func(yield func(one bool) bool) {
		for _, w := range slices.Backward(x) {
			for i := wordBits - 1; i >= 0; i-- {
				if !yield(w>>i&1 == 1) {
					return
				}
			}
		}
	}
}

// gap returns how many zeros there are before the first bit of x that is 1; less than a word has bits, because the last word is not 0.
func (x number) gap() (zeros int) {
	for one := range x.bits() {
		if one {
			break
		}
		zeros++
	}
	return zeros
}

// compare returns -1 if a is less than b, 0 if they are equal, and 1 if a is greater.
func compare(a, b number) (order int) {
	if len(a) != len(b) {
		return cmp.Compare(len(a), len(b))
	}
search:
	for i, w := range slices.Backward(a) {
		switch {
		case w < b[i]:
			order = -1
			break search
		case w > b[i]:
			order = 1
			break search
		}
	}
	return order
}

// sum returns a + b.
func sum(a, b number) number {
	x := make(number, max(len(a), len(b))+1)
	carry := uint64(0)
	for i := range x {
		carry += uint64(a.word(i)) + uint64(b.word(i))
		x[i] = uint32(carry)
		carry >>= wordBits
	}
	return x.trimmed()
}

// difference returns a - b, where b is not greater than a.
func difference(a, b number) number {
	x := make(number, len(a))
	borrow := uint64(0)
	for i, w := range a {
		d := uint64(w) - uint64(b.word(i)) - borrow
		x[i] = uint32(d)
		borrow = d >> 63
	}
	return x.trimmed()
}

// product returns a * b.
func product(a, b number) number {
	x := make(number, len(a)+len(b))
	for i, v := range a {
		carry := uint64(0)
		for k, w := range b {
			carry += uint64(v)*uint64(w) + uint64(x[i+k])
			x[i+k] = uint32(carry)
			carry >>= wordBits
		}
		x[i+len(b)] = uint32(carry)
	}
	return x.trimmed()
}
