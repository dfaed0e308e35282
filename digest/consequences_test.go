package digest_test

import (
	"slices"
	"testing"

	"backflush/api"
	"backflush/digest"
)

// lists returns lists of up to some elements: different digests, equal ones, and zero digests.
func lists(yield func(l []api.Digest) bool) {
	for n := range 70 {
		for _, l := range [][]api.Digest{leaves(n), slices.Repeat([]api.Digest{{3}}, n), make([]api.Digest, n)} {
			if !yield(l) {
				return
			}
		}
	}
}

func TestP2_4ClimbOfPath(t *testing.T) {
	for l := range lists {
		tree := digest.Tree(l)
		for i, d := range l {
			p, e := digest.Path(l, i)
			if e != api.OK || len(p) > 40 {
				t.Error(i, len(l), len(p), e)
			}
			if root, e := digest.Climb(d, i, len(l), p); e != api.OK || root != tree {
				t.Error(i, len(l), root, e)
			}
		}
	}
}

func TestP2_4ClimbOfAnother(t *testing.T) {
	for n := 1; n < 40; n++ {
		l := leaves(n)
		tree := digest.Tree(l)
		for i := range l {
			p, _ := digest.Path(l, i)
			if root, e := digest.Climb(api.Digest{9, 9}, i, n, p); e != api.OK || root == tree {
				t.Error("another element", i, n)
			}
			for at := range p {
				p[at][31] ^= 1
				if root, e := digest.Climb(l[i], i, n, p); e != api.OK || root == tree {
					t.Error("another path", i, n, at)
				}
				p[at][31] ^= 1
			}
		}
	}
}

func TestP2_4LongestPath(t *testing.T) {
	all := leaves(1 << 12)
	p, e := digest.Path(all, len(all)-1)
	if e != api.OK || len(p) != 12 {
		t.Error(len(p), e)
	}
	if p, e := digest.Path(all[:1<<11+1], 0); e != api.OK || len(p) != 12 {
		t.Error(len(p), e)
	}
	if p, e := digest.Path(all[:1<<11+1], 1<<11); e != api.OK || len(p) != 1 {
		t.Error(len(p), e)
	}
}

func TestP2_4NodeOfTwoParts(t *testing.T) {
	for l := range lists {
		if len(l) < 2 {
			continue
		}
		k := 1
		for 2*k < len(l) {
			k *= 2
		}
		left, right := digest.Tree(l[:k]), digest.Tree(l[k:])
		if digest.Tree(l) != digest.Tagged("node", append(left[:], right[:]...)) {
			t.Error(len(l))
		}
	}
}

func TestP2_4OneMoreThanAPowerOf2(t *testing.T) {
	for n := 1; n <= 1<<10; n *= 2 {
		l := leaves(n)
		old, last := digest.Tree(l), api.Digest{1, 2, 3}
		added := digest.Tagged("leaf", last[:])
		if digest.Tree(append(l, last)) != digest.Tagged("node", append(old[:], added[:]...)) {
			t.Error(n)
		}
	}
}
