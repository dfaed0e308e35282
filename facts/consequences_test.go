package facts_test

import (
	"math"
	"math/rand"
	"slices"
	"testing"

	"backflush/api"
	"backflush/facts"
)

// some returns fewer lists than lists.
func some() (l [][]api.Fact) {
	for i, x := range lists() {
		if i < 7 || i%5 == 0 {
			l = append(l, x)
		}
	}
	return l
}

func TestP4_4ThePastRemains(t *testing.T) {
	for _, l := range some() {
		later := slices.Concat([]api.Fact{fact(first, 50, 0, 9, 5, 0)}, l, []api.Fact{fact(first, 51, 0, 1024, math.MaxInt, 3), fact(api.Key{}, -1, -9, 1024, 5, 7)})
		for _, k := range append(few(), first) {
			for known := -1; known < 5; known++ {
				if a, b := facts.Points(l, k, 0, 1024, known), facts.Points(later, k, 0, 1024, known); !slices.Equal(a, b) {
					t.Error(l, k, known, a, b)
				}
			}
		}
		if !same(facts.Changed(l, 1, 4), facts.Changed(later, 1, 4)) {
			t.Error(l)
		}
	}
}

func TestP4_4Upto(t *testing.T) {
	for _, l := range some() {
		for _, known := range []int{-1, 1, 3, 4, 10, 20} {
			x := facts.Upto(l, known)
			for _, k := range append(few(), first) {
				want := facts.Points(l, k, 0, 1024, known)
				for _, later := range []int{known, known + 1, 30, math.MaxInt} {
					if got := facts.Points(x, k, 0, 1024, later); !slices.Equal(got, want) {
						t.Error(l, k, known, later)
					}
				}
			}
		}
	}
}

func TestP4_4PointsAndAt(t *testing.T) {
	for i, l := range some() {
		k := append(few(), first)[i%8]
		for _, known := range []int{1, 3, 20} {
			var want []api.Point
			for day := -3; day < 1027; day++ {
				if v, ok := facts.At(l, k, day, known); ok && day >= 0 && day < 1024 {
					want = append(want, api.Point{Day: day, Value: v})
				}
			}
			if got := facts.Points(l, k, -3, 1027, known); !slices.Equal(got, want) {
				t.Error(l, k, known, got)
			}
		}
	}
}

func TestP4_4AlikeAndChanged(t *testing.T) {
	touches := func(c []api.Differ, r api.Read) bool {
		for day := max(r.From, 0); day < min(r.To, 1024); day++ {
			for _, d := range c {
				if d.Key == r.Key && slices.ContainsFunc(d.Days, func(s api.Span) bool { return s.From <= day && day < s.To }) {
					return true
				}
			}
		}
		return false
	}
	for _, l := range some() {
		c := facts.Changed(l, 2, 20)
		for _, k := range append(few(), first) {
			for from := -2; from < 40; from += 3 {
				for _, r := range []api.Read{{Key: k, From: from, To: from + 4}, {Key: k, From: from + 980, To: from + 990}, {Key: k, From: from, To: from}} {
					if facts.Alike(l, []api.Read{r}, 2, 20) == touches(c, r) {
						t.Error(l, r)
					}
				}
			}
		}
	}
}

// In valid lists no two facts are equal in their order, so that they may be listed in any order.
func TestP4_4OrderOfTheList(t *testing.T) {
	r := rand.New(rand.NewSource(9))
	for range 60 {
		var l []api.Fact
		for no := range 12 {
			from := r.Intn(20)
			l = append(l, fact(few()[r.Intn(5)], r.Intn(4)-1, from, from+1+r.Intn(9), 1+no/3, no%3))
		}
		if facts.Check(l) != api.OK {
			t.Fatal("not valid")
		}
		x := slices.Clone(l)
		r.Shuffle(len(x), func(i, j int) { x[i], x[j] = x[j], x[i] })
		for _, k := range few() {
			for known := range 6 {
				if !slices.Equal(facts.Points(l, k, 0, 1024, known), facts.Points(x, k, 0, 1024, known)) {
					t.Error(l, x, k, known)
				}
			}
		}
		if !same(facts.Changed(l, 1, 3), facts.Changed(x, 1, 3)) {
			t.Error(l, x)
		}
	}
}
