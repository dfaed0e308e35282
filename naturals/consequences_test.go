package naturals_test

import (
	"cmp"
	"math"
	"math/big"
	"math/rand"
	"testing"

	"backflush/api"
	"backflush/naturals"
)

// A calculation goes on with the results of calls, as long as there is no error.
type calculation struct{ e api.Errno }

// call returns the result of f, and remembers its error.
func (c *calculation) call(f binary, a, b string) string {
	if c.e != api.OK {
		return ""
	}
	s, e := f(a, b)
	c.e = e
	return s
}

// triples calls f with three numbers of all sorts and sizes.
func triples(f func(a, b, c string)) {
	l := numbers()
	r := rand.New(rand.NewSource(11))
	for _, a := range l {
		for range 60 {
			f(a, l[r.Intn(len(l))], l[r.Intn(len(l))])
		}
	}
	for range 3000 {
		f(random(r, 100), random(r, 90), random(r, 70))
		f(random(r, 256), random(r, 12), random(r, 5))
	}
}

// sameResult checks that two calculations have the same result, if both have one.
func sameResult(t *testing.T, law string, first, second func(c *calculation) string) {
	t.Helper()
	var c, d calculation
	x, y := first(&c), second(&d)
	if c.e == api.OK && d.e == api.OK && x != y {
		t.Errorf("%s: %x, %x", law, x, y)
	}
}

func TestP6_4ResultsAreShort(t *testing.T) {
	check := func(s string, e api.Errno) {
		t.Helper()
		if naturals.Check(s) != api.OK || e != api.OK && s != "" {
			t.Errorf("%x, %d", s, e)
		}
	}
	pairs(func(a, b string) {
		for _, f := range []binary{naturals.Add, naturals.Sub, naturals.Mul, naturals.Gcd} {
			check(f(a, b))
		}
		q, r, e := naturals.Div(a, b)
		check(q, e)
		check(r, e)
	})
	for _, n := range []int{math.MinInt, -1, 0, 1, 255, 256, 1 << 40, math.MaxInt} {
		check(naturals.Of(n))
	}
}

func TestP6_4Orders(t *testing.T) {
	pairs(func(a, b string) {
		for _, f := range []binary{naturals.Add, naturals.Mul, naturals.Gcd} {
			s, e := f(a, b)
			if x, other := f(b, a); x != s || other != e {
				t.Errorf("%x, %x: %x, %d; %x, %d", a, b, s, e, x, other)
			}
		}
		n, _ := naturals.Compare(a, b)
		if m, _ := naturals.Compare(b, a); n != -m {
			t.Errorf("%x, %x: %d, %d", a, b, n, m)
		}
	})
}

func TestP6_4Combinations(t *testing.T) {
	triples(func(x, y, z string) {
		for _, f := range []binary{naturals.Add, naturals.Mul, naturals.Gcd} {
			sameResult(t, "three numbers",
				func(c *calculation) string { return c.call(f, c.call(f, x, y), z) },
				func(c *calculation) string { return c.call(f, x, c.call(f, y, z)) })
		}
		sameResult(t, "a product with a sum",
			func(c *calculation) string { return c.call(naturals.Mul, x, c.call(naturals.Add, y, z)) },
			func(c *calculation) string {
				return c.call(naturals.Add, c.call(naturals.Mul, x, y), c.call(naturals.Mul, x, z))
			})
	})
}

func TestP6_4Undone(t *testing.T) {
	pairs(func(a, b string) {
		if s, e := naturals.Add(a, b); e == api.OK {
			x, e := naturals.Sub(s, b)
			gives(t, "Sub", s, b, x, e, a)
			if n, e := naturals.Compare(s, a); e != api.OK || (n > 0) != (b != "") || n < 0 {
				t.Errorf("%x, %x: %d, %d", a, b, n, e)
			}
		}
		if s, e := naturals.Mul(a, b); e == api.OK && b != "" {
			divides(t, s, b, a, "")
		}
		if s, e := naturals.Sub(a, b); e == api.OK {
			x, e := naturals.Add(s, b)
			gives(t, "Add", s, b, x, e, a)
		}
	})
}

func TestP6_4QuotientAndRest(t *testing.T) {
	pairs(func(a, b string) {
		q, r, e := naturals.Div(a, b)
		if b == "" {
			return
		}
		var c calculation
		x := c.call(naturals.Add, c.call(naturals.Mul, q, b), r)
		n, less := naturals.Compare(r, b)
		if e != api.OK || c.e != api.OK || x != a || less != api.OK || n != -1 {
			t.Errorf("%x / %x: %x, %x, %d, %d, %d", a, b, q, r, e, c.e, n)
		}
	})
}

// rest returns what remains of a divided by b.
func rest(a, b string) (s string, e api.Errno) {
	_, r, e := naturals.Div(a, b)
	return r, e
}

func TestP6_4Divisors(t *testing.T) {
	triples(func(x, y, d string) {
		var c calculation
		a, b := c.call(naturals.Mul, x, d), c.call(naturals.Mul, y, d)
		g := c.call(naturals.Gcd, a, b)
		if c.e != api.OK || d == "" || g == "" {
			return
		}
		for _, x := range [][2]string{{a, g}, {b, g}, {g, d}} {
			if r := c.call(rest, x[0], x[1]); r != "" || c.e != api.OK {
				t.Errorf("%x, %x, %x: %x divided by %x leaves %x, %d", a, b, d, x[0], x[1], r, c.e)
			}
		}
	})
	for _, a := range []uint64{1, 12, 360, 5040, 1 << 40, 600851475143} {
		for _, b := range []uint64{1, 18, 1024, 2520, 6469693230, 600851475143} {
			g, _ := naturals.Gcd(of(a), of(b))
			for d := uint64(1); d < 6000; d++ {
				if a%d == 0 && b%d == 0 && new(big.Int).Rem(value(g), new(big.Int).SetUint64(d)).Sign() != 0 {
					t.Error(a, b, d)
				}
			}
		}
	}
}

// isInt checks that a result is this int.
func isInt(t *testing.T, call string, a, b int, s string, e api.Errno, want int) {
	t.Helper()
	if n, ok := naturals.Int(s); n != want || !ok || e != api.OK {
		t.Errorf("%s(%d, %d): %x, %d; want %d", call, a, b, s, e, want)
	}
}

func TestP6_4Ints(t *testing.T) {
	l := []int{0, 1, 2, 3, 7, 127, 128, 255, 256, 257, 1000, 65535, 65536, 1<<31 - 1, 1 << 31, 1<<32 - 1, 1 << 32, 1<<32 + 1, 3037000499, 1<<53 + 1, 1<<62 - 1, 1 << 62, math.MaxInt - 1, math.MaxInt}
	for _, a := range l {
		for _, b := range l {
			x, _ := naturals.Of(a)
			y, _ := naturals.Of(b)
			if n, e := naturals.Compare(x, y); n != cmp.Compare(a, b) || e != api.OK {
				t.Error(a, b, n, e)
			}
			if a <= math.MaxInt-b {
				s, e := naturals.Add(x, y)
				isInt(t, "Add", a, b, s, e, a+b)
			}
			if b == 0 || a <= math.MaxInt/b {
				s, e := naturals.Mul(x, y)
				isInt(t, "Mul", a, b, s, e, a*b)
			}
			if a >= b {
				s, e := naturals.Sub(x, y)
				isInt(t, "Sub", a, b, s, e, a-b)
			}
			if b > 0 {
				q, r, e := naturals.Div(x, y)
				isInt(t, "Div", a, b, q, e, a/b)
				isInt(t, "Div", a, b, r, e, a%b)
			}
			s, e := naturals.Gcd(x, y)
			isInt(t, "Gcd", a, b, s, e, int(new(big.Int).GCD(nil, nil, big.NewInt(int64(a)), big.NewInt(int64(b))).Int64()))
		}
	}
}

// Equal calls return equal results, whatever was calculated in between.
func TestP6_4EqualCalls(t *testing.T) {
	results := func() (l []string) {
		pairs(func(a, b string) {
			for _, f := range []binary{naturals.Add, naturals.Sub, naturals.Mul, naturals.Gcd, divided, compared} {
				s, _ := f(a, b)
				l = append(l, s)
			}
		})
		return l
	}
	first := results()
	for i, s := range results() {
		if s != first[i] {
			t.Fatal(i)
		}
	}
}
