package naturals_test

import (
	"math/big"
	"strings"
	"testing"

	"backflush/api"
	"backflush/naturals"
)

func TestP6_2Add(t *testing.T) {
	for _, x := range []struct{ a, b, want string }{
		{"", "", ""},
		{"", "\x01", "\x01"},
		{"\x01", "\x02", "\x03"},
		{"\xff", "\x01", "\x01\x00"},
		{"\x01\x00", "\x01\x00", "\x02\x00"},
		{"\xff\xff", "\x01", "\x01\x00\x00"},
		{"\xff\xff", "\xff\xff", "\x01\xff\xfe"},
		{"\xff\xff\xff\xff", "\x01", "\x01\x00\x00\x00\x00"},
		{"\xff\xff\xff\xff", "\xff\xff\xff\xff", "\x01\xff\xff\xff\xfe"},
		{power(64), less(power(64), 1), "\x01" + greatest[:8]},
		{"", greatest, greatest},
		{greatest[1:], "\x01", power(2040)},
		{greatest[1:], greatest[1:], "\x01" + greatest[:254] + "\xfe"},
		{less(greatest, 1), "\x01", greatest},
		{power(2047), less(power(2047), 1), greatest},
		{greatest, "\x01", power(2048)},
		{greatest, greatest, times(greatest, "\x02")},
		{power(2047), power(2047), power(2048)},
		{less(greatest, 1), "\x02", power(2048)},
	} {
		s, e := naturals.Add(x.a, x.b)
		gives(t, "Add", x.a, x.b, s, e, x.want)
		s, e = naturals.Add(x.b, x.a)
		gives(t, "Add", x.b, x.a, s, e, x.want)
	}
}

func TestP6_2Sub(t *testing.T) {
	for _, x := range []struct{ a, b, want string }{
		{"", "", ""},
		{"\x01", "", "\x01"},
		{"\x02", "\x01", "\x01"},
		{"\x01", "\x01", ""},
		{"\x01\x00", "\x01", "\xff"},
		{"\x01\x00", "\xff", "\x01"},
		{"\x01\x00", "\x01\x00", ""},
		{"\x01\x00\x00", "\x01", "\xff\xff"},
		{"\x01\x00\x00\x00\x00", "\x01", "\xff\xff\xff\xff"},
		{"\x01\x00\x00\x00\x00", "\xff\xff\xff\xff", "\x01"},
		{"\x02\x01\x00\x00\x00\x00", "\x01\xff\x00\x00\x00\x01", "\x01\xff\xff\xff\xff"},
		{power(2047), "\x01", less(power(2047), 1)},
		{power(2040), "\x01", greatest[1:]},
		{power(2040), greatest[1:], "\x01"},
		{greatest, greatest, ""},
		{greatest, less(greatest, 1), "\x01"},
		{greatest, power(2047), less(power(2047), 1)},
		{greatest, "", greatest},
		{greatest, greatest[1:], "\xff" + strings.Repeat("\x00", 255)},
	} {
		s, e := naturals.Sub(x.a, x.b)
		gives(t, "Sub", x.a, x.b, s, e, x.want)
		if x.want != "" {
			s, e = naturals.Sub(x.b, x.a)
			fails(t, "Sub", x.b, x.a, s, e, api.ErrArg)
		}
	}
}

func TestP6_2Mul(t *testing.T) {
	half := strings.Repeat("\xff", 128)
	for _, x := range []struct{ a, b, want string }{
		{"", "", ""},
		{"", "\x01", ""},
		{"", greatest, ""},
		{"\x01", "\x01", "\x01"},
		{"\x01", greatest, greatest},
		{"\x02", "\x03", "\x06"},
		{"\xff", "\xff", "\xfe\x01"},
		{"\x01\x00", "\x01\x00", "\x01\x00\x00"},
		{"\xff\xff", "\xff\xff", "\xff\xfe\x00\x01"},
		{"\xff\xff\xff\xff", "\xff\xff\xff\xff", "\xff\xff\xff\xfe\x00\x00\x00\x01"},
		{less(power(64), 1), less(power(64), 1), "\xff\xff\xff\xff\xff\xff\xff\xfe\x00\x00\x00\x00\x00\x00\x00\x01"},
		{"\x02", less(power(2047), 1), less(greatest, 1)},
		{"\x03", strings.Repeat("\x55", 256), greatest},
		{half, half, half[1:] + "\xfe" + strings.Repeat("\x00", 127) + "\x01"},
		{power(1024), less(power(1024), 1), half + strings.Repeat("\x00", 128)},
		{power(1024), power(1023), power(2047)},
		{more(power(1024), 1), less(power(1024), 1), greatest},
		{"\x02", power(2047), power(2048)},
		{power(1024), power(1024), power(2048)},
		{more(power(1024), 1), power(1024), more(power(1024), 1) + strings.Repeat("\x00", 128)},
		{"\x02", more(power(2047), 1), more(power(2048), 2)},
		{greatest, greatest, times(greatest, greatest)},
		{greatest, "\x02", times(greatest, "\x02")},
	} {
		s, e := naturals.Mul(x.a, x.b)
		gives(t, "Mul", x.a, x.b, s, e, x.want)
		s, e = naturals.Mul(x.b, x.a)
		gives(t, "Mul", x.b, x.a, s, e, x.want)
	}
}

func TestP6_2OfAll(t *testing.T) {
	pairs(func(a, b string) {
		x, y := value(a), value(b)
		s, e := naturals.Add(a, b)
		gives(t, "Add", a, b, s, e, text(new(big.Int).Add(x, y)))
		s, e = naturals.Mul(a, b)
		gives(t, "Mul", a, b, s, e, text(new(big.Int).Mul(x, y)))
		s, e = naturals.Sub(a, b)
		if x.Cmp(y) < 0 {
			fails(t, "Sub", a, b, s, e, api.ErrArg)
		} else {
			gives(t, "Sub", a, b, s, e, text(new(big.Int).Sub(x, y)))
		}
	})
}

// Products at the limit: as many bytes as both factors together, or one less.
func TestP6_2LongProducts(t *testing.T) {
	for size := 1; size < 256; size++ {
		for _, a := range []string{greatest[:size], "\x01" + greatest[:size-1], "\x80" + strings.Repeat("\x00", size-1), "\x10" + strings.Repeat("\x00", size-1)} {
			rest := 256 - size
			for _, b := range []string{greatest[:rest], "\x02" + strings.Repeat("\x00", rest), "\x01" + greatest[:rest], "\x10" + strings.Repeat("\x00", rest), "\x0f" + greatest[:rest]} {
				s, e := naturals.Mul(a, b)
				gives(t, "Mul", a, b, s, e, times(a, b))
			}
		}
	}
}

func TestP6_2Errors(t *testing.T) {
	argumentErrors(t, "Add", naturals.Add)
	argumentErrors(t, "Sub", naturals.Sub)
	argumentErrors(t, "Mul", naturals.Mul)
}
