package lex

// A class says what a byte may begin or continue.
type class int

const (
	otherC  class = iota // it begins nothing and continues nothing
	whiteC               // white space
	letterC              // it begins names and continues them
	digitC               // it begins numbers, and continues them and names
	lineC                // it continues names
	signC                // it is a sign
	classCount
)

// classes are the classes of the bytes below 128.
var classes = [128]class{
	'\t': whiteC, '\n': whiteC, '\r': whiteC, ' ': whiteC,

	'a': letterC, 'b': letterC, 'c': letterC, 'd': letterC, 'e': letterC, 'f': letterC, 'g': letterC,
	'h': letterC, 'i': letterC, 'j': letterC, 'k': letterC, 'l': letterC, 'm': letterC, 'n': letterC,
	'o': letterC, 'p': letterC, 'q': letterC, 'r': letterC, 's': letterC, 't': letterC, 'u': letterC,
	'v': letterC, 'w': letterC, 'x': letterC, 'y': letterC, 'z': letterC,

	'A': letterC, 'B': letterC, 'C': letterC, 'D': letterC, 'E': letterC, 'F': letterC, 'G': letterC,
	'H': letterC, 'I': letterC, 'J': letterC, 'K': letterC, 'L': letterC, 'M': letterC, 'N': letterC,
	'O': letterC, 'P': letterC, 'Q': letterC, 'R': letterC, 'S': letterC, 'T': letterC, 'U': letterC,
	'V': letterC, 'W': letterC, 'X': letterC, 'Y': letterC, 'Z': letterC,

	'0': digitC, '1': digitC, '2': digitC, '3': digitC, '4': digitC,
	'5': digitC, '6': digitC, '7': digitC, '8': digitC, '9': digitC,

	'_': lineC,

	'{': signC, '}': signC, '(': signC, ')': signC, ';': signC,
	',': signC, '=': signC, '#': signC, '/': signC, '<': signC,
	'!': signC, '-': signC, '.': signC, ':': signC, '+': signC,
}

func classOf(b byte) class {
	if int(b) < len(classes) {
		return classes[b]
	}
	return otherC
}

// continuesName reports whether bytes of a class continue a name.
func continuesName(c class) bool {
	return c == letterC || c == digitC || c == lineC
}

// continuesNumber reports whether bytes of a class continue a number.
func continuesNumber(c class) bool {
	return c == digitC
}

// continuesNothing is for tokens of one byte.
func continuesNothing(c class) bool {
	return false
}
