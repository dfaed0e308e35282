package digest_test

import (
	"bytes"
	"crypto/sha256"
	"encoding/hex"
	"strings"
	"testing"

	"backflush/api"
	"backflush/digest"
)

// pattern returns so many bytes, in which neighbours and blocks differ.
func pattern(many int) []byte {
	b := make([]byte, many)
	for i := range b {
		b[i] = byte(i*7 + i/64*13 + 1)
	}
	return b
}

// tagged is Tagged by the hash function of Go's library.
func tagged(tag string, parts ...[]byte) api.Digest {
	head := sha256.Sum256([]byte(tag))
	return sha256.Sum256(append(head[:], bytes.Join(parts, nil)...))
}

func TestP2_1SumOfTexts(t *testing.T) {
	for _, x := range []struct{ text, want string }{
		{"", "e3b0c44298fc1c149afbf4c8996fb92427ae41e4649b934ca495991b7852b855"},
		{"abc", "ba7816bf8f01cfea414140de5dae2223b00361a396177a9cb410ff61f20015ad"},
		{"abcdbcdecdefdefgefghfghighijhijkijkljklmklmnlmnomnopnopq", "248d6a61d20638b8e5c026930c3e6039a33ce45964ff2167f6ecedd419db06c1"},
		{"abcdefghbcdefghicdefghijdefghijkefghijklfghijklmghijklmnhijklmnoijklmnopjklmnopqklmnopqrlmnopqrsmnopqrstnopqrstu", "cf5b16a778af8380036ce59e7b0492370b249b11e8f07a51afac45037afee9d1"},
		{strings.Repeat("a", 1000000), "cdc76e5c9914fb9281a1c7e284d73e67f1809a48a497200e046d39ccc7112cd0"},
	} {
		if d := digest.Sum([]byte(x.text)); hex.EncodeToString(d[:]) != x.want {
			t.Errorf("%d bytes: %x, want %s", len(x.text), d, x.want)
		}
	}
}

// All lengths up to some blocks, and thus all around which the number of blocks changes.
func TestP2_1SumOfLengths(t *testing.T) {
	for many := range 520 {
		if b := pattern(many); digest.Sum(b) != sha256.Sum256(b) {
			t.Error(many)
		}
	}
	for _, block := range []int{1 << 13, 1 << 16, 1 << 20} {
		for many := block - 10; many <= block+10; many++ {
			if b := pattern(many); digest.Sum(b) != sha256.Sum256(b) {
				t.Error(many)
			}
		}
	}
}

func TestP2_1SumOfEqualBytes(t *testing.T) {
	for x := range 256 {
		for _, many := range []int{1, 55, 56, 64, 119, 120, 128} {
			if b := bytes.Repeat([]byte{byte(x)}, many); digest.Sum(b) != sha256.Sum256(b) {
				t.Error(x, many)
			}
		}
	}
}

func TestP2_1SumOfEachBit(t *testing.T) {
	b := pattern(130)
	seen := map[api.Digest]bool{digest.Sum(b): true}
	for i := range 8 * len(b) {
		b[i/8] ^= 1 << (i % 8)
		d := digest.Sum(b)
		if seen[d] || d != sha256.Sum256(b) {
			t.Error("bit", i)
		}
		seen[d] = true
		b[i/8] ^= 1 << (i % 8)
	}
}

func TestP2_1Tagged(t *testing.T) {
	for _, tag := range []string{"", "a", "leaf", "\x00", "\xff\xfe", strings.Repeat("x", 55), strings.Repeat("x", 56), strings.Repeat("x", 200)} {
		for _, many := range []int{0, 1, 22, 23, 24, 31, 32, 33, 64, 86, 87, 88, 96, 97, 1000} {
			if b := pattern(many); digest.Tagged(tag, b) != tagged(tag, b) {
				t.Error(len(tag), many)
			}
		}
	}
}

func TestP2_1TaggedOfNothing(t *testing.T) {
	head := digest.Sum(nil)
	if digest.Tagged("", nil) != digest.Sum(head[:]) {
		t.Error("empty tag and no bytes")
	}
	if digest.Tagged("a", []byte("b")) == digest.Tagged("ab", nil) || digest.Tagged("a", nil) == digest.Tagged("", []byte("a")) {
		t.Error("a tag is not told from the bytes")
	}
}

func TestP2_1NilAndEmpty(t *testing.T) {
	if digest.Sum(nil) != digest.Sum([]byte{}) || digest.Tagged("x", nil) != digest.Tagged("x", []byte{}) {
		t.Error("nil and empty slices differ")
	}
}

// The bytes behind a slice belong to the caller, too.
func TestP2_1BytesAreKept(t *testing.T) {
	for _, many := range []int{0, 1, 55, 56, 63, 64, 65, 127, 128} {
		b := pattern(400)
		digest.Sum(b[:many])
		digest.Tagged("x", b[:many])
		if !bytes.Equal(b, pattern(400)) {
			t.Error(many)
		}
	}
}

func TestP2_3Chain(t *testing.T) {
	l := leaves(4)
	for _, end := range append(l, api.Digest{}) {
		for _, d := range append(l, api.Digest{}) {
			if digest.Chain(end, d) != tagged("chain", end[:], d[:]) {
				t.Errorf("%x, %x", end, d)
			}
		}
	}
	if digest.Chain(l[0], l[1]) == digest.Chain(l[1], l[0]) {
		t.Error("the end and the new element are not told apart")
	}
}

func TestP2_3ChainOfZeros(t *testing.T) {
	got := digest.Chain(api.Digest{}, api.Digest{})
	if got != digest.Tagged("chain", make([]byte, 64)) || got == (api.Digest{}) {
		t.Errorf("%x", got)
	}
}

func TestP2_3ChainOfList(t *testing.T) {
	ends := []api.Digest{{1}}
	for i, d := range leaves(20) {
		ends = append(ends, digest.Chain(ends[i], d))
		if ends[i+1] != tagged("chain", ends[i][:], d[:]) {
			t.Error(i)
		}
	}
	other := api.Digest{2}
	for i, d := range leaves(20) {
		other = digest.Chain(other, d)
		if other == ends[i+1] {
			t.Error("the beginning of a chain has no effect", i)
		}
	}
}
