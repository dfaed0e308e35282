package naturals_test

import (
	"math/big"
	"math/rand"
	"strconv"
	"strings"
	"testing"

	"backflush/api"
	"backflush/naturals"
)

// greatest is the greatest short number, 2^2048 - 1.
var greatest = strings.Repeat("\xff", 256)

// A binary is a function of two numbers, whose results are joined.
type binary func(a, b string) (s string, e api.Errno)

// text returns the natural number with the value of x.
func text(x *big.Int) string { return string(x.Bytes()) }

// value returns the value of a natural number.
func value(s string) *big.Int { return new(big.Int).SetBytes([]byte(s)) }

// of returns the natural number with the value n.
func of(n uint64) string { return text(new(big.Int).SetUint64(n)) }

// power returns 2^n.
func power(n uint) string { return text(new(big.Int).Lsh(big.NewInt(1), n)) }

// less returns s - n.
func less(s string, n int64) string { return text(new(big.Int).Sub(value(s), big.NewInt(n))) }

// more returns s + n.
func more(s string, n int64) string { return less(s, -n) }

// plus returns a + b, however long it is.
func plus(a, b string) string { return text(new(big.Int).Add(value(a), value(b))) }

// times returns the product of all of l, however long it is.
func times(l ...string) string {
	x := big.NewInt(1)
	for _, s := range l {
		x.Mul(x, value(s))
	}
	return text(x)
}

// random returns a number of so many bytes at most. Bytes that are 0 or 255 are frequent in some of them, so that carries go far.
func random(r *rand.Rand, size int) string {
	b := make([]byte, r.Intn(size+1))
	some := []byte{0, 255, 0, 255, 128, 127, 1, 254}
	for i, kind := 0, r.Intn(3); i < len(b); i++ {
		switch kind {
		case 0:
			b[i] = byte(r.Intn(256))
		case 1:
			b[i] = some[r.Intn(len(some))]
		case 2:
			b[i] = some[(i/4*5+len(b))%len(some)]
		}
	}
	return strings.TrimLeft(string(b), "\x00")
}

// numbers returns short numbers of all sorts.
func numbers() (l []string) {
	for n := range uint64(4) {
		l = append(l, of(n))
	}
	for _, n := range []uint{7, 8, 15, 16, 24, 31, 32, 33, 63, 64, 65, 96, 128, 1023, 1024, 2040, 2047} {
		p := power(n)
		l = append(l, less(p, 1), p, more(p, 1))
	}
	l = append(l, greatest, less(greatest, 1), strings.Repeat("\xff", 128)+strings.Repeat("\x00", 128), "\x80"+strings.Repeat("\x00", 126)+"\x01", strings.Repeat("\x01\x00", 128))
	r := rand.New(rand.NewSource(6))
	for _, size := range []int{2, 4, 5, 8, 9, 12, 16, 40, 100, 128, 129, 256} {
		for range 3 {
			l = append(l, random(r, size))
		}
	}
	return l
}

// pairs calls f with all pairs of numbers.
func pairs(f func(a, b string)) {
	l := numbers()
	for _, a := range l {
		for _, b := range l {
			f(a, b)
		}
	}
}

// gives checks the results of a call. A number that is too long must be ErrLimit.
func gives(t *testing.T, call string, a, b, s string, e api.Errno, want string) {
	t.Helper()
	wanted := api.OK
	if len(want) > 256 {
		want, wanted = "", api.ErrLimit
	}
	if s != want || e != wanted {
		t.Errorf("%s(%x, %x): %x, %d; want %x, %d", call, a, b, s, e, want, wanted)
	}
}

// fails checks that a call has an error and no other result.
func fails(t *testing.T, call string, a, b, s string, e, want api.Errno) {
	t.Helper()
	if s != "" || e != want {
		t.Errorf("%s(%.9x, %.9x): %x, %d; want %d", call, a, b, s, e, want)
	}
}

// argumentErrors checks the errors that all functions have for arguments that are not short natural numbers, also where another error would come.
func argumentErrors(t *testing.T, call string, f binary) {
	t.Helper()
	wrong := []string{"\x00", "\x00\x00", "\x00\x01", "\x00\xff\xff", "\x00" + greatest, "\x00" + greatest[1:], strings.Repeat("\x00", 256), strings.Repeat("\x00", 1000)}
	long := []string{power(2048), greatest + "\x00", greatest + "\xff", "\x01" + strings.Repeat("\x00", 65536), strings.Repeat("x", 1<<20)}
	fine := []string{"", "\x01", "0", "\x01\x00", greatest}
	each := func(first, second []string, want api.Errno) {
		t.Helper()
		for _, a := range first {
			for _, b := range second {
				for _, x := range [][2]string{{a, b}, {b, a}} {
					s, e := f(x[0], x[1])
					fails(t, call, x[0], x[1], s, e, want)
				}
			}
		}
	}
	each(wrong, fine, api.ErrNat)
	each(wrong, wrong, api.ErrNat)
	each(wrong, long, api.ErrNat)
	each(long, fine, api.ErrLimit)
	each(long, long, api.ErrLimit)
}

// divided is Div with a result that is two numbers of 256 bytes at most, each with zeros before it.
func divided(a, b string) (s string, e api.Errno) {
	q, r, e := naturals.Div(a, b)
	if q == "" && r == "" {
		return "", e
	}
	pad := func(s string) string { return strings.Repeat("\x00", 256-len(s)) + s }
	return pad(q) + pad(r), e
}

// compared is Compare with its result as a text, which is empty for 0.
func compared(a, b string) (s string, e api.Errno) {
	n, e := naturals.Compare(a, b)
	if n == 0 {
		return "", e
	}
	return strconv.Itoa(n), e
}
