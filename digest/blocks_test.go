package digest

import (
	"bytes"
	"testing"
)

// The number of bits has more than 32 bits from 2^29 bytes on, which are too many to be hashed in a test.
func TestP2_1NumberOfBits(t *testing.T) {
	for _, x := range []struct {
		many   int
		length []byte
	}{
		{0, []byte{0, 0, 0, 0, 0, 0, 0, 0}},
		{1, []byte{0, 0, 0, 0, 0, 0, 0, 8}},
		{31, []byte{0, 0, 0, 0, 0, 0, 0, 248}},
		{32, []byte{0, 0, 0, 0, 0, 0, 1, 0}},
		{1<<29 - 1, []byte{0, 0, 0, 0, 255, 255, 255, 248}},
		{1 << 29, []byte{0, 0, 0, 1, 0, 0, 0, 0}},
		{1<<31 - 1, []byte{0, 0, 0, 3, 255, 255, 255, 248}},
	} {
		rest := bytes.Repeat([]byte{9}, x.many%blockSize)
		b := padded(rest, x.many)
		length := b[len(b)-lengthSize:]
		if !bytes.Equal(length, x.length) {
			t.Error(x.many, length)
		}
	}
}

func TestP2_1Padded(t *testing.T) {
	for many := range blockSize {
		rest := bytes.Repeat([]byte{9}, many)
		b := padded(rest, many)
		zeros := b[many+1 : len(b)-lengthSize]
		want := blockSize
		if many > 55 {
			want = 2 * blockSize
		}
		if len(b) != want || !bytes.Equal(b[:many], rest) || b[many] != 0x80 || !bytes.Equal(zeros, make([]byte, len(zeros))) {
			t.Error(many, b)
		}
	}
}
