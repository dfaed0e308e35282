package lex_test

import (
	"math/rand"
	"slices"
	"strconv"
	"strings"
	"testing"

	"backflush/api"
	"backflush/lex"
)

func TestP5_3LexOfText(t *testing.T) {
	for _, src := range good() {
		l, _, _ := lex.Lex(src)
		text, e := lex.Text(l)
		if e != api.OK {
			t.Fatalf("%q: %d", src, e)
		}
		x, at, e := lex.Lex(text)
		if e != api.OK || at != 0 || !lex.Same(x, l) {
			t.Errorf("%q: %v, %d, %d", text, x, at, e)
		}
		if again, e := lex.Text(x); again != text || e != api.OK {
			t.Errorf("%q: %q, %d", text, again, e)
		}
	}
}

// Tokens that stand nowhere have a text as well; one that is too long has no tokens.
func TestP5_3LexOfTextOfTokens(t *testing.T) {
	r := rand.New(rand.NewSource(6))
	for range 400 {
		var l []api.Token
		for range r.Intn(20) {
			l = append(l, []api.Token{name("a", 0), name("B_12", -4), number(r.Intn(1<<40+1), 9), number(0, 0), sign("/", 1), sign(signs[r.Intn(15):][:1], 1)}[r.Intn(6)])
		}
		text, _ := lex.Text(l)
		if x, at, e := lex.Lex(text); e != api.OK || at != 0 || !lex.Same(x, l) {
			t.Errorf("%q: %v, %d, %d", text, x, at, e)
		}
	}
	half := slices.Repeat(list(sign("/", 0)), 1<<15)
	for _, x := range []struct {
		l    []api.Token
		want api.Errno
	}{{half, api.OK}, {append(half[1:], number(10, 0)), api.OK}, {append(half[1:], number(100, 0)), api.ErrLimit}} {
		text, _ := lex.Text(x.l)
		if l, _, e := lex.Lex(text); e != x.want || e == api.OK && !lex.Same(l, x.l) {
			t.Error(len(text), len(l), e)
		}
	}
}

func TestP5_3Places(t *testing.T) {
	for _, src := range good() {
		l, _, _ := lex.Lex(src)
		end := 0
		for _, x := range l {
			text := x.Text
			if x.Kind == api.NumberT {
				text = strconv.Itoa(x.N)
			}
			if x.At < end || !strings.HasPrefix(src[x.At:], text) || text == "" {
				t.Errorf("%q: %v", src, x)
			}
			end = x.At + len(text)
		}
	}
}

func TestP5_3TwoSources(t *testing.T) {
	all := good()
	for i, a := range all {
		b := all[(i*7+3)%len(all)]
		first, _, _ := lex.Lex(a)
		second, _, _ := lex.Lex(b)
		want := slices.Clone(first)
		for _, x := range second {
			x.At += len(a) + 1
			want = append(want, x)
		}
		reads(t, a+"\n"+b, want)
	}
}

func TestP5_3ErrorInOneOfTwoSources(t *testing.T) {
	for _, src := range sources() {
		if _, at, e := lex.Lex(src); e != api.OK {
			fails(t, src+"\nb", at, e)
			fails(t, "a = 007; $\n"+src, 4, e)
			fails(t, "a = 7 // $\n"+src, len("a = 7 // $\n")+at, e)
		}
	}
}

func TestP5_3WhiteSpaceAndComments(t *testing.T) {
	r := rand.New(rand.NewSource(7))
	gaps := []string{" ", "\t", "\r", "\n", " \n ", "// a $ 007 \xff\n", " // b\r;\n\t", "//\n//\n", "\n/////\n"}
	for _, src := range good() {
		l, _, _ := lex.Lex(src)
		text, _ := lex.Text(l)
		var b strings.Builder
		for word := range strings.FieldsSeq(text) {
			b.WriteString(gaps[r.Intn(len(gaps))] + word)
			if word == "/" { // directly before a comment it would belong to it
				b.WriteString(" ")
			}
			b.WriteString(gaps[r.Intn(len(gaps))])
		}
		b.WriteString("// the end")
		if x, at, e := lex.Lex(b.String()); e != api.OK || at != 0 || !lex.Same(x, l) {
			t.Errorf("%q: %v, %d, %d", b.String(), x, at, e)
		}
	}
}

func TestP5_3BeforeAnError(t *testing.T) {
	for _, src := range sources() {
		_, at, e := lex.Lex(src)
		if e == api.OK {
			continue
		}
		l, place, e := lex.Lex(src[:at])
		if e != api.OK || place != 0 {
			t.Errorf("%q: %d, %d", src[:at], place, e)
		}
		if x, _, _ := lex.Lex(src[:at] + ";"); !slices.Equal(x, append(l, sign(";", at))) {
			t.Errorf("%q: %v", src[:at], x)
		}
		if _, _, ok := token(src[at:]); ok {
			t.Errorf("%q: a token at %d", src, at)
		}
	}
}
