package lex_test

import (
	"slices"
	"strings"
	"testing"

	"backflush/api"
	"backflush/lex"
)

// reads checks that src has these tokens.
func reads(t *testing.T, src string, want []api.Token) {
	t.Helper()
	if l, at, e := lex.Lex(src); e != api.OK || at != 0 || !slices.Equal(l, want) {
		t.Errorf("%.60q: %v, %d, %d; want %v", src, l, at, e, want)
	}
}

// fails checks that src has an error at a place.
func fails(t *testing.T, src string, place int, want api.Errno) {
	t.Helper()
	if l, at, e := lex.Lex(src); e != want || at != place || len(l) > 0 {
		t.Errorf("%.60q: %v, %d, %d; want %d at %d", src, l, at, e, want, place)
	}
}

// likeDefinition checks the result of Lex of src against the definition.
func likeDefinition(t *testing.T, src string) {
	t.Helper()
	want, place, e := scanned(src)
	if e == api.OK {
		reads(t, src, want)
	} else {
		fails(t, src, place, e)
	}
}

func TestP5_1Examples(t *testing.T) {
	for _, x := range []struct {
		src  string
		want []api.Token
	}{
		{"", nil},
		{"earn 30;", list(name("earn", 0), number(30, 5), sign(";", 7))},
		{"1099511627776", list(number(1<<40, 0))},
		{"a // b", list(name("a", 0))},
		{"a=1", list(name("a", 0), sign("=", 1), number(1, 2))},
		{"unit kg = 1000 / 1 g;", list(name("unit", 0), name("kg", 5), sign("=", 8), number(1000, 10), sign("/", 15), number(1, 17), name("g", 19), sign(";", 20))},
		{"option a{b,c};\n", list(name("option", 0), name("a", 7), sign("{", 8), name("b", 9), sign(",", 10), name("c", 11), sign("}", 12), sign(";", 13))},
	} {
		reads(t, x.src, x.want)
	}
	fails(t, "007", 0, api.ErrText)
	fails(t, "a $", 2, api.ErrText)
}

func TestP5_1WhiteSpace(t *testing.T) {
	for _, src := range []string{" ", "\t", "\n", "\r", "\r\n\t \n\n  ", "// note\n", "\n// note", " // one\n\t// two\r\n//"} {
		reads(t, src, nil)
	}
	reads(t, " \ta\r\n\n b ", list(name("a", 2), name("b", 7)))
	for _, src := range []string{"\v", "\f", "\b", "\x85", "\u00a0", "\u2003", "\ufeff"} {
		fails(t, src, 0, api.ErrText)
		fails(t, "a "+src+" b", 2, api.ErrText)
	}
}

func TestP5_1Comments(t *testing.T) {
	for _, x := range []struct {
		src  string
		want []api.Token
	}{
		{"//", nil},
		{"//\n", nil},
		{"///", nil},
		{"////\n//", nil},
		{"// to the end", nil},
		{"// to the line feed\n", nil},
		{"// a\nb", list(name("b", 5))},
		{"// a\n// b\nc // d\n// e", list(name("c", 10))},
		{"// a\rb\nc", list(name("c", 7))},
		{"// a\r\nb", list(name("b", 6))},
		{"// $ _ 007 \x00\xff \" é */\nb", list(name("b", len("// $ _ 007 \x00\xff \" é */\n")))},
		{"a//b\nc", list(name("a", 0), name("c", 5))},
		{"12//34\n56", list(number(12, 0), number(56, 7))},
		{";//;\n;", list(sign(";", 0), sign(";", 5))},
		{"a///\n/b", list(name("a", 0), sign("/", 5), name("b", 6))},
		{"/", list(sign("/", 0))},
		{"/ /", list(sign("/", 0), sign("/", 2))},
		{"/\n/", list(sign("/", 0), sign("/", 2))},
		{"/a", list(sign("/", 0), name("a", 1))},
		{"a/", list(name("a", 0), sign("/", 1))},
		{"1/2", list(number(1, 0), sign("/", 1), number(2, 2))},
		{"/ //", list(sign("/", 0))},
		{"-//-\n-/", list(sign("-", 0), sign("-", 5), sign("/", 6))},
	} {
		reads(t, x.src, x.want)
	}
	fails(t, "// a\n$", 5, api.ErrText)
	fails(t, "/*", 1, api.ErrText)
	fails(t, "/ $ // $", 2, api.ErrText)
}

func TestP5_1Signs(t *testing.T) {
	for i := range len(signs) {
		a := signs[i : i+1]
		reads(t, a, list(sign(a, 0)))
		reads(t, "x"+a+"7"+a, list(name("x", 0), sign(a, 1), number(7, 2), sign(a, 3)))
		for k := range len(signs) {
			if b := signs[k : k+1]; a+b != "//" {
				reads(t, a+b, list(sign(a, 0), sign(b, 1)))
			}
		}
	}
	if len(signs) != 15 {
		t.Error(len(signs))
	}
}

func TestP5_1Names(t *testing.T) {
	long := "L" + strings.Repeat("o_9", 11)
	for _, s := range []string{"a", "z", "A", "Z", "a_", "a__", "B_12", "a1", "Zz9_aA0", long[:31], long[:32], strings.Repeat("q", 32)} {
		reads(t, s, list(name(s, 0)))
		reads(t, "5 "+s+";", list(number(5, 0), name(s, 2), sign(";", 2+len(s))))
	}
	for _, s := range []string{long[:33], long, strings.Repeat("q", 33), strings.Repeat("q", 64), strings.Repeat("q", 65536), strings.Repeat("q", 32) + "_", strings.Repeat("q", 32) + "0"} {
		fails(t, s, 0, api.ErrText)
	}
	fails(t, "a "+long[:33]+" b $", 2, api.ErrText)
	reads(t, long[:32]+"-"+long[:32], list(name(long[:32], 0), sign("-", 32), name(long[:32], 33)))
	for _, src := range []string{"_", "_12", "__", "_a"} {
		fails(t, src, 0, api.ErrText)
		fails(t, "a "+src, 2, api.ErrText)
	}
	fails(t, "1_", 1, api.ErrText)
	fails(t, ";_a", 1, api.ErrText)
}

func TestP5_1Numbers(t *testing.T) {
	for src, n := range map[string]int{
		"0": 0, "1": 1, "9": 9, "10": 10, "100": 100, "1234567890": 1234567890, "999999999999": 999999999999,
		"1099511627775": 1<<40 - 1, "1099511627776": 1 << 40,
	} {
		reads(t, src, list(number(n, 0)))
		reads(t, "a "+src+"\n"+src, list(name("a", 0), number(n, 2), number(n, 3+len(src))))
	}
	for _, src := range []string{
		"00", "01", "007", "0000000000000000000", "01099511627776", "1099511627777", "1099511627780", "1099511627786", "1099511627800", "1199511627776", "2000000000000", "9999999999999",
		"10995116277760", "10000000000000", "9223372036854775807", "9223372036854775808", "18446744073709551615", "18446744073709551616", "18446744073709551621",
		"1" + strings.Repeat("0", 64), "36893488147419103232", strings.Repeat("9", 400), strings.Repeat("7", 65536), strings.Repeat("0", 65536), "1" + strings.Repeat("0", 65535),
	} {
		fails(t, src, 0, api.ErrText)
		if len(src) < 65000 {
			fails(t, "a;"+src+";", 2, api.ErrText)
		}
	}
	reads(t, "-5", list(sign("-", 0), number(5, 1)))
	reads(t, "-0+0", list(sign("-", 0), number(0, 1), sign("+", 2), number(0, 3)))
	reads(t, "1.50", list(number(1, 0), sign(".", 1), number(50, 2)))
	fails(t, "1.05", 2, api.ErrText)
}

func TestP5_1NamesAfterDigits(t *testing.T) {
	long := strings.Repeat("k", 32)
	reads(t, "12ab", list(number(12, 0), name("ab", 2)))
	reads(t, "0x1F", list(number(0, 0), name("x1F", 1)))
	reads(t, "ab12", list(name("ab12", 0)))
	reads(t, "1099511627776"+long, list(number(1<<40, 0), name(long, 13)))
	reads(t, "a1 1a", list(name("a1", 0), number(1, 3), name("a", 4)))
	fails(t, "1"+long+"k", 1, api.ErrText)
	fails(t, "00a", 0, api.ErrText)
}

func TestP5_1AllBytes(t *testing.T) {
	for b := range 256 {
		c := string([]byte{byte(b)})
		for _, src := range []string{c, c + c, "a" + c, c + "a", "7" + c, c + "7", "0" + c, "_" + c, c + "_", " " + c, c + " ", "/" + c, c + "/", "//" + c, "//" + c + "\n;", ";" + c + ";", "ab " + c + "9 //" + c, strings.Repeat("x", 31) + c, strings.Repeat("x", 32) + c, strings.Repeat("8", 12) + c} {
			likeDefinition(t, src)
		}
	}
}

func TestP5_1BytesThatBeginNoToken(t *testing.T) {
	for _, src := range []string{"\x00", "\x01", "\x1f", "\x7f", "\x80", "\xbf", "\xc3", "\xff", "é", "本", "$", "\"", "'", "%", "&", "*", ">", "?", "@", "[", "\\", "]", "^", "`", "|", "~"} {
		fails(t, src, 0, api.ErrText)
		fails(t, "a"+src, 1, api.ErrText)
		fails(t, "make a at b {\n\t1 //"+src+"\n "+src+"; $", len("make a at b {\n\t1 //"+src+"\n "), api.ErrText)
	}
}

func TestP5_1FirstErrorCounts(t *testing.T) {
	fails(t, "a 007 $", 2, api.ErrText)
	fails(t, "a $ 007", 2, api.ErrText)
	fails(t, "a; b = _ 00 $", 7, api.ErrText)
	fails(t, "1099511627777 1099511627777", 0, api.ErrText)
	fails(t, strings.Repeat("ok ", 1000)+"01", 3000, api.ErrText)
}

func TestP5_1LongestSource(t *testing.T) {
	const most = 65536
	for _, x := range []struct {
		src  string
		want []api.Token
	}{
		{strings.Repeat(" ", most), nil},
		{strings.Repeat("\n", most), nil},
		{strings.Repeat("/", most), nil},
		{strings.Repeat("//\n", most/3) + "a", list(name("a", most-1))},
		{strings.Repeat(" ", most-1) + "a", list(name("a", most-1))},
		{"a" + strings.Repeat("\t", most-1), list(name("a", 0))},
		{"7//" + strings.Repeat("\xff", most-4) + "\n", list(number(7, 0))},
	} {
		if len(x.src) != most {
			t.Error(len(x.src))
		}
		reads(t, x.src, x.want)
		fails(t, x.src+" ", 0, api.ErrLimit)
		fails(t, "\n"+x.src, 0, api.ErrLimit)
	}
	l, at, e := lex.Lex(strings.Repeat(";", most))
	if len(l) != most || at != 0 || e != api.OK || l[most-1] != sign(";", most-1) {
		t.Error(len(l), at, e)
	}
	fails(t, strings.Repeat(";", most-1)+"$", most-1, api.ErrText)
	fails(t, strings.Repeat("a ", most/2)+"$", 0, api.ErrLimit)
	for _, src := range []string{"$", "007", strings.Repeat("q", 40), "//"} {
		fails(t, src+strings.Repeat(" ", most+1-len(src)), 0, api.ErrLimit)
		fails(t, strings.Repeat(src, 1<<18), 0, api.ErrLimit)
	}
}

func TestP5_1AllSources(t *testing.T) {
	for _, src := range sources() {
		likeDefinition(t, src)
	}
}

// Equal calls return equal results, whatever was done with earlier ones.
func TestP5_1NewMemory(t *testing.T) {
	want := list(name("a", 0), sign("=", 2), number(1, 4))
	l, _, _ := lex.Lex("a = 1")
	for i := range l {
		l[i] = name("other", 9)
	}
	reads(t, "a = 1", want)
}
