package digest_test

import (
	"math"
	"slices"
	"testing"

	"backflush/api"
	"backflush/digest"
)

// leaves returns so many digests, all of them different.
func leaves(many int) []api.Digest {
	l := make([]api.Digest, many)
	for i := range l {
		l[i] = api.Digest{byte(i), byte(i >> 8), 31: byte(i + 1)}
	}
	return l
}

func leaf(d api.Digest) api.Digest { return tagged("leaf", d[:]) }

func node(a, b api.Digest) api.Digest { return tagged("node", a[:], b[:]) }

// rise returns the digests of neighbours, and the last one as it is if it has none: a tree that is built from its leaves, not from its root as the chapter does.
func rise(level []api.Digest) []api.Digest {
	var above []api.Digest
	for x := range slices.Chunk(level, 2) {
		if len(x) == 2 {
			x = []api.Digest{node(x[0], x[1])}
		}
		above = append(above, x[0])
	}
	return above
}

// grown returns the digest of a list that is not empty, and the path of the element with the index at.
func grown(l []api.Digest, at int) (root api.Digest, path []api.Digest) {
	level := make([]api.Digest, len(l))
	for i, d := range l {
		level[i] = leaf(d)
	}
	for ; len(level) > 1; at /= 2 {
		if at^1 < len(level) {
			path = append(path, level[at^1])
		}
		level = rise(level)
	}
	return level[0], path
}

// follow is grown for one element with a path, whose elements it uses up.
func follow(d api.Digest, at, n int, path []api.Digest) api.Digest {
	d = leaf(d)
	for ; n > 1; at, n = at/2, (n+1)/2 {
		if at^1 >= n {
			continue
		}
		if at%2 == 0 {
			d = node(d, path[0])
		} else {
			d = node(path[0], d)
		}
		path = path[1:]
	}
	return d
}

func TestP2_2TreeOfFew(t *testing.T) {
	l := leaves(6)
	a, b, c, d, e, f := leaf(l[0]), leaf(l[1]), leaf(l[2]), leaf(l[3]), leaf(l[4]), leaf(l[5])
	for n, want := range []api.Digest{
		tagged("empty"),
		a,
		node(a, b),
		node(node(a, b), c),
		node(node(a, b), node(c, d)),
		node(node(node(a, b), node(c, d)), e),
		node(node(node(a, b), node(c, d)), node(e, f)),
	} {
		if got := digest.Tree(l[:n]); got != want {
			t.Errorf("%d elements: %x, want %x", n, got, want)
		}
	}
}

func TestP2_2TreeOfMany(t *testing.T) {
	all := leaves(1025)
	for _, n := range append(upTo(140), 255, 256, 257, 1000, 1023, 1024, 1025) {
		if want, _ := grown(all[:n], 0); digest.Tree(all[:n]) != want {
			t.Error(n)
		}
	}
}

// upTo returns the numbers from 1 to n.
func upTo(n int) []int {
	l := make([]int, n)
	for i := range l {
		l[i] = i + 1
	}
	return l
}

func TestP2_2TreeTellsListsApart(t *testing.T) {
	a, b, c := api.Digest{1}, api.Digest{2}, api.Digest{}
	seen := map[api.Digest]bool{}
	lists := [][]api.Digest{{}, {a}, {b}, {c}, {a, b}, {b, a}, {a, a}, {c, c}, {a, b, c}, {a, b, c, c}, {c, c, c}, {c, c, c, c}, {digest.Tree([]api.Digest{a, b})}}
	for i, l := range lists {
		d := digest.Tree(l)
		if seen[d] {
			t.Error(i)
		}
		seen[d] = true
	}
}

func TestP2_2NilAndEmpty(t *testing.T) {
	if digest.Tree(nil) != digest.Tree([]api.Digest{}) || digest.Tree(nil) != digest.Tagged("empty", nil) {
		t.Error("no elements")
	}
	d := api.Digest{5}
	for _, path := range [][]api.Digest{nil, {}} {
		if root, e := digest.Climb(d, 0, 1, path); e != api.OK || root != digest.Tree([]api.Digest{d}) {
			t.Errorf("%x, %d", root, e)
		}
	}
}

func TestP2_2PathOfFew(t *testing.T) {
	l := leaves(5)
	a, b, c, d, e := leaf(l[0]), leaf(l[1]), leaf(l[2]), leaf(l[3]), leaf(l[4])
	ab, cd := node(a, b), node(c, d)
	for n, paths := range [][][]api.Digest{
		{},
		{{}},
		{{b}, {a}},
		{{b, c}, {a, c}, {ab}},
		{{b, cd}, {a, cd}, {d, ab}, {c, ab}},
		{{b, cd, e}, {a, cd, e}, {d, ab, e}, {c, ab, e}, {node(ab, cd)}},
	} {
		for at, want := range paths {
			if p, e := digest.Path(l[:n], at); e != api.OK || !slices.Equal(p, want) {
				t.Errorf("%d of %d: %x, %d, want %x", at, n, p, e, want)
			}
		}
	}
}

func TestP2_2PathOfMany(t *testing.T) {
	all := leaves(1025)
	for _, n := range append(upTo(40), 63, 64, 65, 127, 128, 129, 1023, 1024, 1025) {
		for _, at := range []int{0, 1, n / 3, n / 2, n - 2, n - 1} {
			if at < 0 || at >= n {
				continue
			}
			_, want := grown(all[:n], at)
			if p, e := digest.Path(all[:n], at); e != api.OK || !slices.Equal(p, want) {
				t.Error(at, n, e)
			}
		}
	}
}

func TestP2_2PathErrors(t *testing.T) {
	for n := range 10 {
		for _, at := range []int{-1, -2, n, n + 1, math.MinInt, math.MaxInt, 1 << 32, -n - 1} {
			if p, e := digest.Path(leaves(n), at); e != api.ErrArg || len(p) != 0 {
				t.Error(at, n, p, e)
			}
		}
	}
	if p, e := digest.Path(nil, 0); e != api.ErrArg || len(p) != 0 {
		t.Error(p, e)
	}
}

// Paths that belong to no list that is known lead to a root, too.
func TestP2_2Climb(t *testing.T) {
	for n := 1; n <= 70; n++ {
		for at := range n {
			_, same := grown(leaves(n), at)
			p := leaves(len(same))
			d := api.Digest{7, byte(n), byte(at)}
			if root, e := digest.Climb(d, at, n, p); e != api.OK || root != follow(d, at, n, p) {
				t.Errorf("%d of %d: %x, %d", at, n, root, e)
			}
		}
	}
}

func TestP2_2ClimbErrors(t *testing.T) {
	d := api.Digest{1}
	for _, x := range []struct{ at, n, path int }{
		{0, 0, 0}, {0, -1, 0}, {-1, 0, 0}, {-1, -1, 0}, {-2, -1, 0}, {0, math.MinInt, 0}, {math.MinInt, math.MinInt, 0},
		{-1, 1, 0}, {1, 1, 0}, {2, 1, 0}, {0, 1, 1}, {0, 1, 2}, {1, 1, 1},
		{0, 2, 0}, {0, 2, 2}, {1, 2, 0}, {1, 2, 2}, {-1, 2, 1}, {2, 2, 1}, {3, 2, 1},
		{0, 3, 1}, {1, 3, 3}, {2, 3, 0}, {2, 3, 2}, {3, 3, 2}, {3, 3, 1},
		{3, 4, 1}, {3, 4, 3}, {4, 4, 2}, {4, 5, 3}, {4, 5, 0}, {4, 5, 2}, {0, 5, 2}, {0, 5, 4}, {5, 5, 1}, {5, 5, 3},
		{0, 64, 5}, {0, 64, 7}, {63, 64, 5}, {63, 64, 7}, {64, 65, 7}, {64, 65, 0}, {64, 65, 2}, {63, 65, 6}, {63, 65, 8},
		{math.MinInt, 2, 1}, {math.MaxInt, 2, 1}, {math.MaxInt, math.MaxInt, 63}, {0, math.MaxInt, 63}, {0, 1 << 62, 62},
	} {
		if root, e := digest.Climb(d, x.at, x.n, leaves(x.path)); e != api.ErrArg || root != (api.Digest{}) {
			t.Error(x, root, e)
		}
	}
}

func TestP2_2ClimbAtTheLimit(t *testing.T) {
	const most = 1 << 40
	d := api.Digest{1}
	for _, x := range []struct{ at, n, path int }{
		{0, most, 40}, {1, most, 40}, {most - 1, most, 40}, {most / 2, most, 40}, {most/2 - 1, most, 40},
		{0, most - 1, 40}, {most - 2, most - 1, 39}, {most - 3, most - 1, 40},
		{0, most/2 + 1, 40}, {most / 2, most/2 + 1, 1}, {most/2 - 1, most/2 + 1, 40},
	} {
		p := leaves(x.path)
		if root, e := digest.Climb(d, x.at, x.n, p); e != api.OK || root != follow(d, x.at, x.n, p) {
			t.Errorf("%v: %x, %d", x, root, e)
		}
		for _, other := range []int{0, x.path - 1, x.path + 1, 100} {
			if root, e := digest.Climb(d, x.at, x.n, leaves(other)); other != x.path && (e != api.ErrArg || root != (api.Digest{})) {
				t.Error(x, other, root, e)
			}
		}
	}
	for _, x := range []struct{ at, n, path int }{
		{0, most + 1, 41}, {0, most + 1, 40}, {most, most + 1, 1}, {most, most, 40}, {most, most, 1}, {-1, most, 40}, {0, 2 * most, 41}, {most + 1, most, 40},
	} {
		if root, e := digest.Climb(d, x.at, x.n, leaves(x.path)); e != api.ErrArg || root != (api.Digest{}) {
			t.Error(x, root, e)
		}
	}
}

func TestP2_2ArgumentsAreKept(t *testing.T) {
	whole := leaves(40)
	for n := 1; n < 20; n++ {
		for at := range n {
			l := whole[:n]
			digest.Tree(l)
			first, _ := digest.Path(l, at)
			kept := slices.Clone(first)
			roomy := append(slices.Clone(first), leaves(3)...)[:len(first)]
			digest.Climb(l[at], at, n, roomy)
			if !slices.Equal(roomy, kept) || !slices.Equal(roomy[:len(roomy)+3][len(roomy):], leaves(3)) {
				t.Error("Climb changed the path", at, n)
			}
			for i := range first {
				first[i] = api.Digest{255}
			}
			if second, _ := digest.Path(l, at); !slices.Equal(second, kept) || !slices.Equal(whole, leaves(40)) {
				t.Error("Path changed or shared the list", at, n)
			}
		}
	}
}
