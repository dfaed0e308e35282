package naturals_test

import (
	"math"
	"math/big"
	"strings"
	"testing"

	"backflush/api"
	"backflush/naturals"
)

func TestP6_1Check(t *testing.T) {
	for s, want := range map[string]api.Errno{
		"":                           api.OK,
		"\x01":                       api.OK,
		"\xff":                       api.OK,
		"\x01\x00":                   api.OK,
		"\x01\x00\x00":               api.OK,
		"1000":                       api.OK,
		greatest[1:]:                 api.OK,
		greatest:                     api.OK,
		power(2047):                  api.OK,
		power(2048):                  api.ErrLimit,
		greatest + "\xff":            api.ErrLimit,
		"\x00":                       api.ErrNat,
		"\x00\x00":                   api.ErrNat,
		"\x00\x01":                   api.ErrNat,
		"\x00\xff\xff\xff":           api.ErrNat,
		"\x00" + greatest[2:]:        api.ErrNat,
		"\x00" + greatest[1:]:        api.ErrNat,
		"\x00" + greatest:            api.ErrNat,
		"\x00" + greatest + greatest: api.ErrNat,

		strings.Repeat("\x01", 1<<20): api.ErrLimit,
		strings.Repeat("\x00", 1<<20): api.ErrNat,
	} {
		if e := naturals.Check(s); e != want {
			t.Errorf("%d bytes, %.9x: %d; want %d", len(s), s, e, want)
		}
	}
}

func TestP6_1CheckOfAllBytes(t *testing.T) {
	for b := range 256 {
		s := string([]byte{byte(b)})
		for size := range 257 {
			want := api.OK
			if b == 0 {
				want = api.ErrNat
			} else if size == 256 {
				want = api.ErrLimit
			}
			if e := naturals.Check(s + greatest[:size]); e != want {
				t.Errorf("%x and %d bytes: %d; want %d", s, size, e, want)
			}
			if e := naturals.Check("\x01" + strings.Repeat(s, size)); (e == api.OK) != (size < 256) {
				t.Errorf("1 and %d times %x: %d", size, s, e)
			}
		}
	}
}

func TestP6_1Of(t *testing.T) {
	for n, want := range map[int]string{
		0:             "",
		1:             "\x01",
		127:           "\x7f",
		128:           "\x80",
		255:           "\xff",
		256:           "\x01\x00",
		257:           "\x01\x01",
		1000:          "\x03\xe8",
		65535:         "\xff\xff",
		65536:         "\x01\x00\x00",
		1<<24 - 1:     "\xff\xff\xff",
		1 << 24:       "\x01\x00\x00\x00",
		1<<32 - 1:     "\xff\xff\xff\xff",
		1 << 32:       "\x01\x00\x00\x00\x00",
		0x10203040506: "\x01\x02\x03\x04\x05\x06",
		1 << 56:       "\x01\x00\x00\x00\x00\x00\x00\x00",
		1<<62 + 5:     "\x40\x00\x00\x00\x00\x00\x00\x05",
		math.MaxInt:   "\x7f\xff\xff\xff\xff\xff\xff\xff",
	} {
		if s, e := naturals.Of(n); s != want || e != api.OK {
			t.Errorf("%d: %x, %d", n, s, e)
		}
	}
	for n := range 70000 {
		if s, e := naturals.Of(n); s != of(uint64(n)) || e != api.OK {
			t.Errorf("%d: %x, %d", n, s, e)
		}
	}
	for _, n := range []int{-1, -2, -255, -256, -1 << 32, math.MinInt + 1, math.MinInt} {
		if s, e := naturals.Of(n); s != "" || e != api.ErrArg {
			t.Errorf("%d: %x, %d", n, s, e)
		}
	}
}

func TestP6_1Int(t *testing.T) {
	for s, want := range map[string]int{
		"":                                 0,
		"\x01":                             1,
		"\xff":                             255,
		"\x01\x00":                         256,
		"\x01\x00\x00":                     65536,
		power(32):                          1 << 32,
		"\x01\x02\x03\x04\x05\x06\x07\x08": 0x102030405060708,
		power(62):                          1 << 62,
		less(power(63), 2):                 math.MaxInt - 1,
		less(power(63), 1):                 math.MaxInt,
	} {
		if n, ok := naturals.Int(s); n != want || !ok {
			t.Errorf("%x: %d, %v; want %d", s, n, ok, want)
		}
	}
	for _, s := range []string{
		power(63), more(power(63), 1), less(power(64), 1), power(64), more(power(64), 1), power(71), power(72), power(200), greatest, power(2048), greatest + greatest,
		"\x01" + strings.Repeat("\x00", 1<<20), "\x00", "\x00\x00", "\x00\x01", "\x00\x01\x00", "\x00\x01\x02\x03\x04\x05\x06\x07", "\x00\x01\x02\x03\x04\x05\x06\x07\x08", strings.Repeat("\x00", 300),
	} {
		if n, ok := naturals.Int(s); n != 0 || ok {
			t.Errorf("%.9x: %d, %v", s, n, ok)
		}
	}
}

// A string is a number if Int of it is what Of makes a string of.
func TestP6_1IntOfOf(t *testing.T) {
	for shift := range 63 {
		for _, n := range []int{1<<shift - 1, 1 << shift, 1<<shift + 1, math.MaxInt >> shift, 0x123456789abcdef >> shift} {
			s, _ := naturals.Of(n)
			if x, ok := naturals.Int(s); x != n || !ok {
				t.Errorf("%d: %d, %v", n, x, ok)
			}
			if s != text(big.NewInt(int64(n))) {
				t.Errorf("%d: %x", n, s)
			}
		}
	}
}

func TestP6_1Compare(t *testing.T) {
	l := []string{
		"", "\x01", "\x02", "\x7f", "\x80", "\xff", "\x01\x00", "\x01\x01", "\x01\xff", "\x02\x00", "\xff\xff", "\x01\x00\x00",
		less(power(32), 1), power(32), more(power(32), 1), "\x01\x00\x00\x00\xff", "\x01\x00\x00\x01\x00", "\x02\x00\x00\x00\x00", less(power(64), 1), power(64), power(65),
		power(1000), more(power(1000), 1), times(power(1000), "\x02"), power(2047), more(power(2047), 1), greatest[:255] + "\xfe", greatest,
	}
	for i, a := range l {
		for k, b := range l {
			want := 0
			if i < k {
				want = -1
			} else if i > k {
				want = 1
			}
			if n, e := naturals.Compare(a, b); n != want || e != api.OK {
				t.Errorf("%x, %x: %d, %d; want %d", a, b, n, e, want)
			}
		}
	}
}

// One byte that is different decides, wherever it stands, and the first one that is.
func TestP6_1CompareOneByte(t *testing.T) {
	for _, size := range []int{1, 3, 4, 5, 8, 9, 255, 256} {
		a := strings.Repeat("\x80", size)
		for i := range size {
			for _, b := range []string{a[:i] + "\x81" + a[i+1:], a[:i] + "\x81" + strings.Repeat("\x01", size-1-i), a[:i] + "\xff" + strings.Repeat("\x00", size-1-i)} {
				if n, e := naturals.Compare(a, b); n != -1 || e != api.OK {
					t.Errorf("%x, %x: %d, %d", a, b, n, e)
				}
				if n, e := naturals.Compare(b, a); n != 1 || e != api.OK {
					t.Errorf("%x, %x: %d, %d", b, a, n, e)
				}
			}
		}
	}
}

func TestP6_1CompareOfAll(t *testing.T) {
	pairs(func(a, b string) {
		if n, e := naturals.Compare(a, b); n != value(a).Cmp(value(b)) || e != api.OK {
			t.Errorf("%x, %x: %d, %d", a, b, n, e)
		}
	})
}

func TestP6_1CompareErrors(t *testing.T) {
	argumentErrors(t, "Compare", compared)
}
