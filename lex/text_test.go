package lex_test

import (
	"math"
	"regexp"
	"slices"
	"strings"
	"testing"

	"backflush/api"
	"backflush/lex"
)

// wrong returns tokens that are not valid.
func wrong() []api.Token {
	l := []api.Token{
		{}, {At: 3}, {Text: "a"}, {Text: ";"}, {N: 1},
		{Kind: 4}, {Kind: 4, Text: "a"}, {Kind: 4, Text: ";"}, {Kind: 4, N: 1}, {Kind: -1, Text: "a"}, {Kind: math.MinInt, N: 1}, {Kind: math.MaxInt, Text: ";"},
		{Kind: api.NameT, Text: "a", N: 1}, {Kind: api.NameT, Text: "a", N: -1}, {Kind: api.NameT, N: 7},
		{Kind: api.NumberT, Text: "1", N: 1}, {Kind: api.NumberT, Text: "1"}, {Kind: api.NumberT, Text: " "}, {Kind: api.NumberT, Text: "a"},
		{Kind: api.SignT, Text: ";", N: 1}, {Kind: api.SignT, Text: ";", N: -1}, {Kind: api.SignT, N: 1},
		number(-1, 0), number(1<<40+1, 0), number(math.MinInt, 0), number(math.MaxInt, 0), number(-1<<40, 0),
	}
	for _, s := range []string{"", " ", "a ", " a", "a b", "_", "_12", "1", "1a", "a-", "a;", "é", "aé", "a\x00", "a\n", "\xff", strings.Repeat("a", 33), strings.Repeat("a", 1000)} {
		l = append(l, name(s, 0))
	}
	for _, s := range []string{"", " ", "a", "0", "_", "//", "/ ", " ;", ";;", "{}", "$", ">", "*", "é", "\x00", "\n", "\xff", "\xad"} {
		l = append(l, sign(s, 0))
	}
	return l
}

func TestP5_2Text(t *testing.T) {
	for _, x := range []struct {
		l    []api.Token
		want string
	}{
		{nil, ""},
		{[]api.Token{}, ""},
		{list(name("a", 0), sign("=", 1), number(1, 2)), "a = 1"},
		{list(name("a", 0)), "a"},
		{list(number(0, 0)), "0"},
		{list(number(1, 0)), "1"},
		{list(number(90, 0)), "90"},
		{list(number(1<<40-1, 0)), "1099511627775"},
		{list(number(1<<40, 0)), "1099511627776"},
		{list(sign("/", 0), sign("/", 1)), "/ /"},
		{list(number(1, 0), name("a", 1)), "1 a"},
		{list(name("B_12", 0), name("x", 0), number(5, 0), number(0, 0)), "B_12 x 5 0"},
		{list(name("a", math.MinInt), sign(";", math.MaxInt), number(3, -1)), "a ; 3"},
		{list(name(strings.Repeat("a", 32), 70000)), strings.Repeat("a", 32)},
		{slices.Repeat(list(number(1<<40, 0)), 9000), strings.Repeat(" 1099511627776", 9000)[1:]},
	} {
		if src, e := lex.Text(x.l); src != x.want || e != api.OK {
			t.Errorf("%.60q, %d; want %.60q", src, e, x.want)
		}
	}
	for i := range len(signs) {
		s := signs[i : i+1]
		if src, e := lex.Text(list(sign(s, 4), sign(s, 0))); src != s+" "+s || e != api.OK {
			t.Error(s, src, e)
		}
	}
}

func TestP5_2TextOfTokensThatAreNotValid(t *testing.T) {
	for _, x := range wrong() {
		for _, at := range []int{x.At, math.MinInt, 8} {
			x.At = at
			for i, l := range [][]api.Token{{x}, {x, name("a", 0)}, {name("a", 0), x}, {number(1, 0), x, sign(";", 0)}, {x, x}, append(slices.Repeat(list(sign(";", 0)), 500), x)} {
				if src, e := lex.Text(l); src != "" || e != api.ErrText {
					t.Errorf("%d: %v: %.60q, %d", i, x, src, e)
				}
			}
		}
	}
}

func TestP5_2TextOfAllBytes(t *testing.T) {
	for b := range 256 {
		s := string([]byte{byte(b)})
		_, e := lex.Text(list(sign(s, 0)))
		if (e == api.OK) != strings.Contains(signs, s) || e != api.OK && e != api.ErrText {
			t.Errorf("sign %q: %d", s, e)
		}
		for _, s := range []string{s, "a" + s, s + "a"} {
			_, e := lex.Text(list(name(s, 0)))
			if (e == api.OK) != lex.Name(s) || e != api.OK && e != api.ErrText {
				t.Errorf("name %q: %d", s, e)
			}
		}
	}
}

func TestP5_2Same(t *testing.T) {
	l := [][]api.Token{
		nil, {{}}, {{}, {}}, {{Kind: 4}}, {{Kind: -1}}, {{Text: "a"}}, {{N: 1}}, {{N: -1}}, {{N: math.MinInt}},
		list(name("a", 0)), list(name("b", 0)), list(name("A", 0)), list(name("aa", 0)), list(name("", 0)), list(sign("a", 0)), {{Kind: api.NumberT, Text: "a"}}, {{Kind: api.NameT, Text: "a", N: 1}},
		list(number(0, 0)), list(number(1, 0)), list(sign("", 0)), list(sign(";", 0)), list(sign(",", 0)), list(name(";", 0)),
		list(name("a", 0), name("b", 0)), list(name("b", 0), name("a", 0)), list(name("a", 0), name("a", 0)), list(name("a", 0), sign("b", 0)), list(name("a", 0), api.Token{}),
		list(name("a", 0), sign("=", 0), number(1, 0)), list(name("a", 0), sign("=", 0), number(2, 0)), list(name("a", 0), sign("<", 0), number(1, 0)), list(name("b", 0), sign("=", 0), number(1, 0)),
	}
	for i, a := range l {
		for k, b := range l {
			if lex.Same(a, b) != (i == k) {
				t.Error(a, b, lex.Same(a, b))
			}
		}
		b := slices.Clone(a)
		for k := range b {
			b[k].At = []int{7, -1, math.MaxInt}[k]
		}
		if !lex.Same(a, b) || !lex.Same(b, a) {
			t.Error("other places", a, b)
		}
	}
	if !lex.Same(nil, []api.Token{}) || !lex.Same([]api.Token{}, nil) {
		t.Error("nil and empty")
	}
}

func TestP5_2Name(t *testing.T) {
	pattern := regexp.MustCompile(`^[A-Za-z][A-Za-z0-9_]{0,31}$`)
	all := []string{"", "a", "Z", "B_12", "_12", "_", "1", "a1", "1a", "a b", "a\n", " a", "a ", "é", "aé", "a$", "ab.c", "a//", "earn"}
	for n := range 70 {
		all = append(all, strings.Repeat("a", n), strings.Repeat("Z_0", n), strings.Repeat("a", n)+"-", strings.Repeat("a", n)+" ", "0"+strings.Repeat("a", n), "_"+strings.Repeat("a", n))
	}
	all = append(all, strings.Repeat("a", 1<<20))
	for b := range 256 {
		c := string([]byte{byte(b)})
		all = append(all, c, c+"a", "a"+c, "a"+c+"b", strings.Repeat("a", 31)+c, strings.Repeat("a", 32)+c)
	}
	for _, s := range all {
		if lex.Name(s) != pattern.MatchString(s) {
			t.Errorf("%.60q: %v", s, lex.Name(s))
		}
	}
}

// R2, for all functions that get tokens.
func TestP5_2ArgumentsAreKept(t *testing.T) {
	l := append(wrong(), list(name("a", 5), number(3, 2), sign(";", 1))...)
	before := slices.Clone(l)
	room := append(make([]api.Token, 0, 9), l[len(l)-3:]...)
	for range 2 {
		lex.Text(l)
		lex.Same(l, l[1:])
		if src, e := lex.Text(room); src != "a 3 ;" || e != api.OK {
			t.Error(src, e)
		}
	}
	if !slices.Equal(l, before) || !slices.Equal(room, before[len(l)-3:]) || room[:4][3] != (api.Token{}) {
		t.Error("an argument has changed")
	}
}
