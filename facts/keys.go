package facts

import (
	"cmp"
	"iter"
	"maps"
	"slices"

	"backflush/api"
)

// The greatest numbers of a valid fact that package api does not name.
const (
	maxKind    = 15
	maxSubject = 4095
	maxObject  = 1023
	maxNo      = 65535
)

// none is the value of a fact by which its key has no value.
const none = -1

// allValid reports whether each fact of l is valid.
func allValid(l []api.Fact) bool {
	for _, f := range l {
		if !valid(f) {
			return false
		}
	}
	return true
}

// valid reports whether all numbers of f are within their bounds.
func valid(f api.Fact) bool {
	return within(f.Key.Kind, 0, maxKind) && within(f.Key.Subject, 0, maxSubject) && within(f.Key.Object, 0, maxObject) &&
		within(f.Value, none, api.MaxValue) &&
		0 <= f.Valid.From && f.Valid.From < f.Valid.To && f.Valid.To <= api.MaxDay &&
		within(f.Known, 1, api.MaxKnown) && within(f.No, 0, maxNo)
}

// within reports whether n is between two numbers.
func within(n, least, greatest int) bool {
	return least <= n && n <= greatest
}

// inOrder compares two facts by the time from which they are known, and by their number at this time.
func inOrder(a, b api.Fact) int {
	return cmp.Or(cmp.Compare(a.Known, b.Known), cmp.Compare(a.No, b.No))
}

// about yields the facts of l about k that are known at a time, in their order in l.
func about(l []api.Fact, k api.Key, known int) iter.Seq[api.Fact] {
	return func(yield func(api.Fact) bool) {
		for _, f := range l {
			if f.Key == k && f.Known <= known && !yield(f) {
				return
			}
		}
	}
}

// changing returns the facts of each key of which something becomes known after one time and until a later one, in their order in l. The values of all other keys are the same at both times.
func changing(l []api.Fact, earlier, later int) map[api.Key][]api.Fact {
	groups := map[api.Key][]api.Fact{}
	for _, f := range l {
		if earlier < f.Known && f.Known <= later {
			groups[f.Key] = nil
		}
	}
	for _, f := range l {
		if g, ok := groups[f.Key]; ok {
			groups[f.Key] = append(g, f)
		}
	}
	return groups
}

// sortedKeys returns the keys of groups by Kind, then Subject, then Object.
func sortedKeys(groups map[api.Key][]api.Fact) []api.Key {
	return slices.SortedFunc(maps.Keys(groups), func(a, b api.Key) int {
		return cmp.Or(cmp.Compare(a.Kind, b.Kind), cmp.Compare(a.Subject, b.Subject), cmp.Compare(a.Object, b.Object))
	})
}
