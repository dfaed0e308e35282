package digest

import (
	"math/bits"

	"backflush/api"
)

// maxLeaves is the greatest number of elements of a list in which Climb climbs.
const maxLeaves = 1 << 40

// Tree returns the digest of the list l.
func Tree(l []api.Digest) (d api.Digest) {
	switch len(l) {
	case 0:
		return Tagged("empty", nil)
	case 1:
		return leaf(l[0])
	}
	first := split(len(l))
	return node(Tree(l[:first]), Tree(l[first:]))
}

// Path returns the path of the element of l with the index at, or ErrArg if there is none.
func Path(l []api.Digest, at int) (p []api.Digest, e api.Errno) {
	if at < 0 || at >= len(l) {
		return nil, api.ErrArg
	}
	return path(l, at), api.OK
}

// Climb returns the digest of a list of n elements in which d has the index at and the path p. It returns ErrArg unless n and at are within their limits and p is as long as such paths are.
func Climb(d api.Digest, at, n int, p []api.Digest) (root api.Digest, e api.Errno) {
	if n < 1 || n > maxLeaves || at < 0 || at >= n || len(p) != steps(at, n) {
		return api.Digest{}, api.ErrArg
	}
	return climb(d, at, n, p), api.OK
}

func path(l []api.Digest, at int) []api.Digest {
	if len(l) == 1 {
		return nil
	}
	first := split(len(l))
	if at < first {
		return append(path(l[:first], at), Tree(l[first:]))
	}
	return append(path(l[first:], at-first), Tree(l[:first]))
}

// steps returns the length of the path of the element with the index at in a list of n elements.
func steps(at, n int) int {
	if n == 1 {
		return 0
	}
	first := split(n)
	if at < first {
		return 1 + steps(at, first)
	}
	return 1 + steps(at-first, n-first)
}

// climb is Climb for arguments that fit. It takes steps off the end of the path, because a path leads from the leaf to the root.
func climb(d api.Digest, at, n int, p []api.Digest) api.Digest {
	if n == 1 {
		return leaf(d)
	}
	first, last := split(n), len(p)-1
	if at < first {
		return node(climb(d, at, first, p[:last]), p[last])
	}
	return node(p[last], climb(d, at-first, n-first, p[:last]))
}

// split returns the greatest power of 2 less than n, which is at least 2.
func split(n int) int {
	return 1 << (bits.Len(uint(n-1)) - 1)
}

func leaf(d api.Digest) api.Digest {
	return Tagged("leaf", d[:])
}

func node(left, right api.Digest) api.Digest {
	return pair("node", left, right)
}
