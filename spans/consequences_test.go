package spans_test

import (
	"slices"
	"testing"

	"backflush/api"
	"backflush/spans"
)

// some returns fewer lists than lists, for laws about pairs and triples.
func some() (l [][]api.Span) {
	for i, x := range lists() {
		if i < 24 || i%29 == 0 {
			l = append(l, x)
		}
	}
	return append(l, everySecond(1))
}

func same(t *testing.T, law string, a, b []api.Span) {
	t.Helper()
	if !slices.Equal(a, b) {
		t.Error(law, a, b)
	}
}

func TestP3_4NormalLists(t *testing.T) {
	all := lists()
	for i, l := range all {
		other := all[(i*5+1)%len(all)]
		for _, x := range [][]api.Span{spans.Normal(l), spans.Union(l, other), spans.Meet(l, other), spans.Minus(l, other)} {
			if spans.Check(x) != api.OK {
				t.Error("Check", x)
			}
			same(t, "normal", spans.Normal(x), x)
		}
	}
}

func TestP3_4LawsOfOne(t *testing.T) {
	calendar := list(0, 1024)
	for _, a := range lists() {
		n := spans.Normal(a)
		same(t, "union, idempotent", spans.Union(a, a), n)
		same(t, "meet, idempotent", spans.Meet(a, a), n)
		same(t, "union with nothing", spans.Union(a, nil), n)
		same(t, "meet with the calendar", spans.Meet(a, calendar), n)
		same(t, "minus itself", spans.Minus(a, a), nil)
		same(t, "minus twice", spans.Minus(calendar, spans.Minus(calendar, a)), n)
	}
}

func TestP3_4LawsOfPairs(t *testing.T) {
	for _, a := range some() {
		for _, b := range some() {
			union, meet, minus := spans.Union(a, b), spans.Meet(a, b), spans.Minus(a, b)
			same(t, "union, commutative", union, spans.Union(b, a))
			same(t, "meet, commutative", meet, spans.Meet(b, a))
			same(t, "minus and meet together", spans.Union(minus, meet), spans.Normal(a))
			same(t, "minus and meet in common", spans.Meet(minus, meet), nil)
			same(t, "equal sets: union", union, spans.Union(spans.Normal(a), spans.Normal(b)))
			same(t, "equal sets: minus", minus, spans.Minus(spans.Normal(a), spans.Normal(b)))
		}
	}
}

func TestP3_4LawsOfTriples(t *testing.T) {
	l := some()
	for i, a := range l {
		for _, b := range l {
			c := l[(i*3+2)%len(l)]
			same(t, "union, associative", spans.Union(spans.Union(a, b), c), spans.Union(a, spans.Union(b, c)))
			same(t, "meet, associative", spans.Meet(spans.Meet(a, b), c), spans.Meet(a, spans.Meet(b, c)))
			same(t, "union of meets", spans.Union(a, spans.Meet(b, c)), spans.Meet(spans.Union(a, b), spans.Union(a, c)))
			same(t, "meet of unions", spans.Meet(a, spans.Union(b, c)), spans.Union(spans.Meet(a, b), spans.Meet(a, c)))
		}
	}
}

// A span that leaves the calendar is not covered, although what is left of it may be empty.
func TestP3_4CoversAndMinus(t *testing.T) {
	for _, l := range some() {
		for _, x := range lists() {
			for _, s := range x {
				left := spans.Minus([]api.Span{s}, l)
				inside := s.From >= s.To || 0 <= s.From && s.To <= 1024
				if spans.Covers(l, s) != (inside && len(left) == 0) {
					t.Error(l, s)
				}
			}
		}
	}
}

func TestP3_4HasAndCovers(t *testing.T) {
	for _, l := range some() {
		for day := -3; day < 1028; day++ {
			if spans.Has(l, day) != spans.Covers(l, api.Span{From: day, To: day + 1}) {
				t.Error(l, day)
			}
		}
	}
}
