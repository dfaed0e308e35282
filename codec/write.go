package codec

import "backflush/api"

// size returns the number of bytes that write appends for v.
func size(v api.Value) int {
	return 1 + coders()[v.Kind].size(v)
}

func sizeInt(v api.Value) int {
	return sizeNumeral(unsigned(v.N))
}

func sizeText(v api.Value) int {
	return sizeNumeral(uint64(len(v.S))) + len(v.S)
}

func sizeList(v api.Value) int {
	n := sizeNumeral(uint64(len(v.L)))
	for _, element := range v.L {
		n += size(element)
	}
	return n
}

func sizeNumeral(u uint64) int {
	n := 1
	for ; u >= base; u /= base {
		n++
	}
	return n
}

// write appends the encoding of v, which is well-formed, to b.
func write(b []byte, v api.Value) []byte {
	return coders()[v.Kind].write(append(b, byte(v.Kind)), v)
}

func writeInt(b []byte, v api.Value) []byte {
	return writeNumeral(b, unsigned(v.N))
}

func writeText(b []byte, v api.Value) []byte {
	return append(writeNumeral(b, uint64(len(v.S))), v.S...)
}

func writeList(b []byte, v api.Value) []byte {
	b = writeNumeral(b, uint64(len(v.L)))
	for _, element := range v.L {
		b = write(b, element)
	}
	return b
}

// base is the base of numerals; a digit to which it was added is not the last one.
const base = 128

func writeNumeral(b []byte, u uint64) []byte {
	for ; u >= base; u /= base {
		b = append(b, byte(u%base+base))
	}
	return append(b, byte(u))
}

// unsigned returns the unsigned form of n. For a negative n it doubles -n - 1, since the least int has no -n.
func unsigned(n int) uint64 {
	if n < 0 {
		return uint64(-(n+1))*2 + 1
	}
	return uint64(n) * 2
}

// signed returns the integer whose unsigned form is u.
func signed(u uint64) int {
	half := int(u / 2)
	if u%2 == 1 {
		return -half - 1
	}
	return half
}
