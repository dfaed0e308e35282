package lex

import (
	"strings"

	"backflush/api"
)

// comment is what a comment begins with.
const comment = "//"

// greatest is the greatest number of a token.
const greatest = 1 << 40

// A place is the index of the byte at which a token begins that is not as it must be. It is a panic, which ends the scanning.
type place int

// A rule scans what begins with a byte of one class. What is no token becomes one that is not valid, so that it is reported in one place, wherever it was found.
type rule struct {
	continues func(c class) bool
	token     func(text string) api.Token
}

// rules returns the rule of each class. White space has one only so that none is missing: it is passed over before a token begins.
func rules() [classCount]rule {
	return [...]rule{
		otherC:  {continuesNothing, noToken},
		whiteC:  {continuesNothing, noToken},
		letterC: {continuesName, nameToken},
		digitC:  {continuesNumber, numberToken},
		lineC:   {continuesNothing, noToken},
		signC:   {continuesNothing, signToken},
	}
}

// A scanner has read the bytes of src before at.
type scanner struct {
	src string
	at  int
}

// tokens returns the tokens of the source.
func (s *scanner) tokens() (l []api.Token) {
	byClass := rules()
	for s.pass(); s.at < len(s.src); s.pass() {
		l = append(l, s.scan(byClass[classOf(s.src[s.at])]))
	}
	return l
}

// pass passes over white space and comments.
func (s *scanner) pass() {
	for s.at < len(s.src) {
		switch rest := s.src[s.at:]; {
		case classOf(rest[0]) == whiteC:
			s.at++
		case strings.HasPrefix(rest, comment):
			s.at += lineLength(rest)
		default:
			return
		}
	}
}

// scan returns the token that begins here.
func (s *scanner) scan(r rule) api.Token {
	begin := s.at
	s.at++
	for s.at < len(s.src) && r.continues(classOf(s.src[s.at])) {
		s.at++
	}
	t := r.token(s.src[begin:s.at])
	if !valid(t) {
		panic(place(begin))
	}
	t.At = begin
	return t
}

// lineLength returns how many bytes of text there are before the first line feed.
func lineLength(text string) int {
	if n := strings.IndexByte(text, '\n'); n >= 0 {
		return n
	}
	return len(text)
}

func noToken(text string) api.Token {
	return api.Token{}
}

func nameToken(text string) api.Token {
	return api.Token{Kind: api.NameT, Text: text}
}

func numberToken(text string) api.Token {
	return api.Token{Kind: api.NumberT, N: number(text)}
}

func signToken(text string) api.Token {
	return api.Token{Kind: api.SignT, Text: text}
}

// number returns the number with these digits, or -1 if they are those of no token. It ends at the first digit that makes it too great, because an int has no room for many more.
func number(digits string) (n int) {
	if len(digits) > 1 && digits[0] == '0' {
		return -1
	}
	for i := range len(digits) {
		n = n*10 + int(digits[i]-'0')
		if n > greatest {
			return -1
		}
	}
	return n
}
