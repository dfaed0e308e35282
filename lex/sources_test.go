package lex_test

import (
	"math/rand"
	"regexp"
	"slices"
	"strconv"
	"strings"

	"backflush/api"
)

// signs are the signs of the chapter.
const signs = "{}();,=#/<!-.:+"

func name(text string, at int) api.Token {
	return api.Token{Kind: api.NameT, Text: text, At: at}
}

func number(n, at int) api.Token {
	return api.Token{Kind: api.NumberT, N: n, At: at}
}

func sign(text string, at int) api.Token {
	return api.Token{Kind: api.SignT, Text: text, At: at}
}

func list(l ...api.Token) []api.Token { return l }

// patterns are the definitions of the chapter.
var patterns = struct{ gap, name, digits, number, sign *regexp.Regexp }{
	gap:    regexp.MustCompile(`^(?:[ \t\n\r]|//[^\n]*)*`),
	name:   regexp.MustCompile(`^[A-Za-z][A-Za-z0-9_]*`),
	digits: regexp.MustCompile(`^[0-9]+`),
	number: regexp.MustCompile(`^(?:0|[1-9][0-9]{0,12})$`),
	sign:   regexp.MustCompile(`^[{}();,=#/<!\-.:+]`),
}

// token returns the token at the beginning of rest by its definition, and how many bytes it has.
func token(rest string) (t api.Token, size int, ok bool) {
	if text := patterns.name.FindString(rest); text != "" {
		return name(text, 0), len(text), len(text) <= 32
	}
	if text := patterns.digits.FindString(rest); text != "" {
		n, _ := strconv.Atoi(text)
		return number(n, 0), len(text), patterns.number.MatchString(text) && n <= 1<<40
	}
	text := patterns.sign.FindString(rest)
	return sign(text, 0), len(text), text != ""
}

// scanned is Lex by its definition.
func scanned(src string) (l []api.Token, at int, e api.Errno) {
	if len(src) > 65536 {
		return nil, 0, api.ErrLimit
	}
	for at = 0; ; {
		at += len(patterns.gap.FindString(src[at:]))
		if at == len(src) {
			return l, 0, api.OK
		}
		t, size, ok := token(src[at:])
		if !ok {
			return nil, at, api.ErrText
		}
		t.At = at
		l = append(l, t)
		at += size
	}
}

// pieces returns what sources are made of; with the wrong ones, most sources have an error.
func pieces(wrong bool) []string {
	l := []string{
		" ", "\t", "\n", "\r", "  \n", "// note\n", "//\n", "///\n", "// $\x00\xff é \r//\n", "\n\n",
		"a", "Z", "b_", "B_12", "x9", "earn", "q0__", strings.Repeat("n", 32), "z" + strings.Repeat("_", 15), "\n" + strings.Repeat("A9", 16) + "\n",
		"0", "7", "10", "907", "1048576", "1099511627775", "1099511627776", " 0 ", " 42 ",
	}
	l = append(l, strings.Split(signs, "")...)
	if wrong {
		l = append(l, "_", "00", "01", "1099511627777", strings.Repeat("n", 33), "$", "\"", "\x00", "\v", "é", "\xff", "\u00a0", "*", strings.Repeat("9", 25), "18446744073709551621")
	}
	return l
}

// sources returns sources of all sorts.
func sources() (all []string) {
	all = []string{"", " ", "\t\r\n ", "//", "/", "// a", "earn 30;", "a // b", "a $", "007"}
	for _, wrong := range []bool{false, true} {
		r := rand.New(rand.NewSource(5))
		l := pieces(wrong)
		all = append(all, l...)
		for range 1500 {
			var b strings.Builder
			for range r.Intn(14) {
				b.WriteString(l[r.Intn(len(l))])
			}
			all = append(all, b.String())
		}
	}
	return all
}

// good returns the sources that have tokens.
func good() []string {
	return slices.DeleteFunc(sources(), func(src string) bool {
		_, _, e := scanned(src)
		return e != api.OK
	})
}
