package naturals_test

import (
	"math/big"
	"math/rand"
	"strings"
	"testing"

	"backflush/api"
	"backflush/naturals"
)

// divides checks the results of Div.
func divides(t *testing.T, a, b, quotient, rest string) {
	t.Helper()
	if q, r, e := naturals.Div(a, b); q != quotient || r != rest || e != api.OK {
		t.Errorf("%x / %x: %x, %x, %d; want %x, %x", a, b, q, r, e, quotient, rest)
	}
}

// dividesLikeBig checks the results of Div against those of math/big.
func dividesLikeBig(t *testing.T, a, b string) {
	t.Helper()
	q, r := new(big.Int).QuoRem(value(a), value(b), new(big.Int))
	divides(t, a, b, text(q), text(r))
}

func TestP6_3Div(t *testing.T) {
	for _, x := range []struct{ a, b, q, r string }{
		{"", "\x01", "", ""},
		{"", greatest, "", ""},
		{"\x05", "\x01", "\x05", ""},
		{"\x05", "\x02", "\x02", "\x01"},
		{"\x05", "\x05", "\x01", ""},
		{"\x05", "\x06", "", "\x05"},
		{"\x03\xe8", "\x01\x00", "\x03", "\xe8"},
		{"\x01\x00", "\x01\x00", "\x01", ""},
		{"\xff", "\x01\x00", "", "\xff"},
		{"\x01\x00", "\xff", "\x01", "\x01"},
		{greatest, "\x01", greatest, ""},
		{greatest, greatest, "\x01", ""},
		{less(greatest, 1), greatest, "", less(greatest, 1)},
		{greatest, less(greatest, 1), "\x01", "\x01"},
		{greatest, "\xff", strings.Repeat("\x01", 256), ""},
		{greatest, "\x02", less(power(2047), 1), "\x01"},
		{greatest, power(2047), "\x01", less(power(2047), 1)},
		{power(2047), power(1024), power(1023), ""},
		{greatest, "\xff\xff", strings.Repeat("\x00\x01", 128)[1:], ""},
		{greatest, power(64), greatest[:248], greatest[:8]},
		{less(power(64), 1), power(32), greatest[:4], greatest[:4]},
		{power(64), more(power(32), 1), greatest[:4], "\x01"},
		{power(2047), more(power(1023), 1), less(power(1024), 2), "\x02"},
	} {
		divides(t, x.a, x.b, x.q, x.r)
	}
}

func TestP6_3DivByZero(t *testing.T) {
	for _, a := range append(numbers(), "\x05", "") {
		if q, r, e := naturals.Div(a, ""); q != "" || r != "" || e != api.ErrZero {
			t.Errorf("%x: %x, %x, %d", a, q, r, e)
		}
	}
}

func TestP6_3DivOfAll(t *testing.T) {
	pairs(func(a, b string) {
		if b != "" {
			dividesLikeBig(t, a, b)
		}
	})
}

// patterns returns the numbers of up to three words of so many bytes that are the least, the greatest or in the middle.
func patterns(size int) (l []string) {
	zeros, full := strings.Repeat("\x00", size), greatest[:size]
	words := []string{zeros, full, zeros[1:] + "\x01", full[1:] + "\xfe", "\x80" + zeros[1:], "\x7f" + full[1:]}
	for _, x := range words {
		for _, y := range words {
			for _, z := range words {
				l = append(l, strings.TrimLeft(x+y+z, "\x00"))
			}
		}
	}
	return l
}

// The first words of these numbers suggest quotients that are 1 or 2 too great, for words of one byte, of 32 bits and of 64 bits.
func TestP6_3DivGuesses(t *testing.T) {
	for _, size := range []int{1, 4, 8} {
		l := patterns(size)
		for _, b := range l {
			if b == "" {
				continue
			}
			for _, a := range l {
				dividesLikeBig(t, a, b)
				p := times(a, b)
				divides(t, p, b, a, "")
				divides(t, plus(p, less(b, 1)), b, a, less(b, 1))
				if a != "" {
					divides(t, less(p, 1), b, less(a, 1), less(b, 1))
				}
			}
		}
	}
}

func TestP6_3DivOfProducts(t *testing.T) {
	r := rand.New(rand.NewSource(7))
	for range 4000 {
		b := random(r, 1+r.Intn(255))
		q := random(r, 256-len(b))
		if b == "" || q == "" {
			continue
		}
		divides(t, times(q, b), b, q, "")
		divides(t, less(times(q, b), 1), b, less(q, 1), less(b, 1))
		rest := text(new(big.Int).Rem(value(random(r, 256)), value(b)))
		divides(t, plus(times(q, b), rest), b, q, rest)
	}
}

func TestP6_3DivErrors(t *testing.T) {
	argumentErrors(t, "Div", divided)
}

func TestP6_3Gcd(t *testing.T) {
	primes := times(of(1<<61-1), of(1<<31-1), of(65537))
	for _, x := range []struct{ a, b, want string }{
		{"", "", ""},
		{"", "\x01", "\x01"},
		{"", "\x06", "\x06"},
		{"", greatest, greatest},
		{"\x01", "\x01", "\x01"},
		{"\x01", greatest, "\x01"},
		{"\x06", "\x06", "\x06"},
		{"\x06", "\x04", "\x02"},
		{"\x0c", "\x12", "\x06"},
		{"\x08", "\x09", "\x01"},
		{"\x03\xe8", "\x01\x00", "\x08"},
		{greatest, greatest, greatest},
		{greatest, less(greatest, 1), "\x01"},
		{greatest, strings.Repeat("\xff", 64), strings.Repeat("\xff", 64)},
		{greatest, strings.Repeat("\xff", 96), strings.Repeat("\xff", 32)},
		{greatest[:255], greatest[:252], greatest[:3]},
		{power(2047), power(1000), power(1000)},
		{power(2047), "\x03", "\x01"},
		{power(2047), less(power(2047), 1), "\x01"},
		{power(2047), more(power(1024), 1), "\x01"},
		{times(primes, power(900)), times(primes, "\x07"), primes},
		{times(primes, "\x05", "\x05"), times(primes, "\x07", "\x05"), times(primes, "\x05")},
		{of(1<<61 - 1), of(1<<31 - 1), "\x01"},
		{power(63), power(64), power(63)},
		{times(power(64), "\x03"), times(power(32), "\x09"), times(power(32), "\x03")},
	} {
		s, e := naturals.Gcd(x.a, x.b)
		gives(t, "Gcd", x.a, x.b, s, e, x.want)
		s, e = naturals.Gcd(x.b, x.a)
		gives(t, "Gcd", x.b, x.a, s, e, x.want)
	}
}

// divisorLikeBig checks the result of Gcd against that of math/big, in both orders.
func divisorLikeBig(t *testing.T, a, b string) {
	t.Helper()
	want := text(new(big.Int).GCD(nil, nil, value(a), value(b)))
	s, e := naturals.Gcd(a, b)
	gives(t, "Gcd", a, b, s, e, want)
	s, e = naturals.Gcd(b, a)
	gives(t, "Gcd", b, a, s, e, want)
}

func TestP6_3GcdOfAll(t *testing.T) {
	pairs(func(a, b string) { divisorLikeBig(t, a, b) })
}

func TestP6_3GcdOfMultiples(t *testing.T) {
	r := rand.New(rand.NewSource(8))
	for range 3000 {
		size := r.Intn(200)
		g := random(r, size)
		divisorLikeBig(t, times(g, random(r, 256-size)), times(g, random(r, 256-size)))
	}
}

// All quotients of these numbers are small, or some of them are great, and the last number that is not 0 is their divisor.
func TestP6_3GcdByQuotients(t *testing.T) {
	r := rand.New(rand.NewSource(9))
	quotients := [][]string{{"\x01"}, {"\x02"}, {"\x01", "\x02", "\x03"}, {"\x01", "\x01", "\x01", power(31)}, {"\x01", power(40)}, {"\x05", "\x01", "\x01", power(70)}, {"\x01", less(power(32), 1), less(power(64), 1)}}
	for _, l := range quotients {
		for _, g := range []string{"\x01", "\x06", power(32), less(power(64), 1), power(90), random(r, 100) + "\x01"} {
			for a, b := g, ""; ; {
				s, e := naturals.Gcd(a, b)
				gives(t, "Gcd", a, b, s, e, g)
				s, e = naturals.Gcd(b, a)
				gives(t, "Gcd", b, a, s, e, g)
				q := l[r.Intn(len(l))]
				a, b = plus(times(a, q), b), a
				if len(a) > 256 {
					break
				}
			}
		}
	}
}

// Numbers whose first bytes are the same.
func TestP6_3GcdOfNeighbours(t *testing.T) {
	r := rand.New(rand.NewSource(10))
	for range 300 {
		a := "\x01" + random(r, 255)
		for _, n := range []int64{0, 1, 2, 3, 1 << 31, 1 << 32, 1<<62 + 1} {
			if value(a).Cmp(big.NewInt(n)) >= 0 {
				divisorLikeBig(t, a, less(a, n))
			}
		}
		for _, at := range []int{4, 8, 9, 12, 16, 20} {
			if at < len(a) {
				divisorLikeBig(t, a, a[:at]+strings.Repeat("\x00", len(a)-at))
				divisorLikeBig(t, a, a[:at]+greatest[:len(a)-at])
				divisorLikeBig(t, a, a[:at])
			}
		}
	}
}

func TestP6_3GcdOfSmallNumbers(t *testing.T) {
	for a := 1; a < 130; a++ {
		for b := 1; b < 130; b++ {
			d := min(a, b)
			for a%d > 0 || b%d > 0 {
				d--
			}
			x, y := of(uint64(a)), of(uint64(b))
			s, e := naturals.Gcd(x, y)
			gives(t, "Gcd", x, y, s, e, of(uint64(d)))
		}
	}
}

func TestP6_3GcdErrors(t *testing.T) {
	argumentErrors(t, "Gcd", naturals.Gcd)
}
