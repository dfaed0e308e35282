package spans_test

import (
	"math"
	"math/rand"
	"slices"
	"testing"

	"backflush/api"
	"backflush/spans"
)

// list returns the spans from and to the numbers of each pair of ends.
func list(ends ...int) (l []api.Span) {
	for pair := range slices.Chunk(ends, 2) {
		l = append(l, api.Span{From: pair[0], To: pair[1]})
	}
	return l
}

// has is Has by the definition of the days of a list.
func has(l []api.Span, day int) bool {
	for _, s := range l {
		if 0 <= day && day <= 1023 && s.From <= day && day < s.To {
			return true
		}
	}
	return false
}

// normal returns the normal list of the days for which in holds: it begins a span after each day that is out, and ends it before the next one.
func normal(in func(day int) bool) (x []api.Span) {
	for day := range 1024 {
		if in(day) && (day == 0 || !in(day-1)) {
			x = append(x, api.Span{From: day})
		}
		if in(day) && (day == 1023 || !in(day+1)) {
			x[len(x)-1].To = day + 1
		}
	}
	return x
}

// ends are numbers on both sides of all that matters to a list.
var ends = []int{math.MinInt, math.MinInt + 1, -5, -1, 0, 1, 2, 500, 1022, 1023, 1024, 1025, 2000, math.MaxInt - 1, math.MaxInt}

// lists returns all lists of one span of ends, some with more spans, and random ones.
func lists() (all [][]api.Span) {
	all = [][]api.Span{
		nil, {}, list(0, 0), list(5, 5), list(7, 3), list(0, 1024),
		list(10, 20, 15, 30), list(10, 20, 20, 30), list(10, 20, 21, 30), list(20, 30, 10, 20), list(25, 30, 10, 20, 1, 3),
		list(10, 20, 10, 20), list(10, 30, 15, 20), list(15, 20, 10, 30), list(10, 20, 5, 5, 20, 22), list(9, 3, 3, 9),
		list(0, 1, 1023, 1024), list(-3, 1, 1023, 1030), list(-9, -2, 1024, 1025), list(0, 512, 512, 1024),
		list(math.MinInt, math.MaxInt), list(math.MinInt, 3, 1000, math.MaxInt), list(math.MaxInt, math.MinInt, 4, 5),
	}
	for _, from := range ends {
		for _, to := range ends {
			all = append(all, list(from, to))
		}
	}
	r := rand.New(rand.NewSource(1))
	for range 120 {
		var l []api.Span
		for range r.Intn(12) {
			from := r.Intn(1100) - 40
			l = append(l, api.Span{From: from, To: from + r.Intn(100) - 10})
		}
		all = append(all, l)
	}
	return append(all, everySecond(0), everySecond(1), append(everySecond(1), everySecond(0)...))
}

// everySecond returns the spans of every second day from first on.
func everySecond(first int) (l []api.Span) {
	for day := first; day < 1024; day += 2 {
		l = append(l, api.Span{From: day, To: day + 1})
	}
	return l
}

func TestP3_1Check(t *testing.T) {
	for i, x := range []struct {
		l    []api.Span
		want api.Errno
	}{
		{nil, api.OK},
		{[]api.Span{}, api.OK},
		{list(0, 1), api.OK},
		{list(0, 1024), api.OK},
		{list(1023, 1024), api.OK},
		{list(5, 6, 1, 4), api.OK},
		{list(5, 9, 1, 7, 5, 9), api.OK},
		{list(1, 4, 4, 7), api.OK},
		{list(0, 0), api.ErrSpans},
		{list(5, 5), api.ErrSpans},
		{list(1024, 1024), api.ErrSpans},
		{list(6, 5), api.ErrSpans},
		{list(-1, 5), api.ErrSpans},
		{list(-1, 0), api.ErrSpans},
		{list(-7, -3), api.ErrSpans},
		{list(1023, 1025), api.ErrSpans},
		{list(1024, 1025), api.ErrSpans},
		{list(math.MinInt, 5), api.ErrSpans},
		{list(5, math.MaxInt), api.ErrSpans},
		{list(math.MinInt, math.MaxInt), api.ErrSpans},
		{list(math.MaxInt, math.MinInt), api.ErrSpans},
		{list(3, 3, 1, 2), api.ErrSpans},
		{list(1, 2, 3, 3), api.ErrSpans},
		{list(1, 2, 3, 2, 5, 6), api.ErrSpans},
	} {
		if e := spans.Check(x.l); e != x.want {
			t.Error(i, x.l, e)
		}
	}
}

func TestP3_1CheckOfAllEnds(t *testing.T) {
	for _, from := range ends {
		for _, to := range ends {
			want := api.ErrSpans
			if 0 <= from && from < to && to <= 1024 {
				want = api.OK
			}
			for _, l := range [][]api.Span{list(from, to), list(3, 9, from, to), list(from, to, 3, 9)} {
				if e := spans.Check(l); e != want {
					t.Error(l, e)
				}
			}
		}
	}
}

func TestP3_1NormalOfExamples(t *testing.T) {
	for i, x := range []struct{ l, want []api.Span }{
		{nil, nil},
		{[]api.Span{}, nil},
		{list(5, 5), nil},
		{list(0, 0), nil},
		{list(9, 2), nil},
		{list(math.MaxInt, math.MinInt), nil},
		{list(-5, 2000), list(0, 1024)},
		{list(math.MinInt, math.MaxInt), list(0, 1024)},
		{list(10, 20, 15, 30), list(10, 30)},
		{list(10, 20, 20, 30), list(10, 30)},
		{list(10, 20, 21, 30), list(10, 20, 21, 30)},
		{list(21, 30, 10, 20), list(10, 20, 21, 30)},
		{list(10, 30, 12, 13), list(10, 30)},
		{list(10, 20, 10, 20), list(10, 20)},
		{list(-9, 0, 1024, 1030), nil},
		{list(-9, 1, 1023, 1030), list(0, 1, 1023, 1024)},
		{list(0, 512, 512, 1024), list(0, 1024)},
		{list(3, 9, 9, 3), list(3, 9)},
		{append(everySecond(1), everySecond(0)...), list(0, 1024)},
		{everySecond(1), everySecond(1)},
	} {
		if got := spans.Normal(x.l); !slices.Equal(got, x.want) {
			t.Error(i, got)
		}
	}
}

func TestP3_1Normal(t *testing.T) {
	for _, l := range lists() {
		want := normal(func(day int) bool { return has(l, day) })
		if got := spans.Normal(l); !slices.Equal(got, want) {
			t.Error(l, got)
		}
	}
}

// A list of many long spans must not take the time of all their days.
func TestP3_1NormalOfManySpans(t *testing.T) {
	l := slices.Repeat(list(0, 1000, 5, math.MaxInt, math.MinInt, 1020), 1<<20)
	if got := spans.Normal(l); !slices.Equal(got, list(0, 1024)) {
		t.Error(got)
	}
}

func TestP3_2Examples(t *testing.T) {
	calendar := list(0, 1024)
	for i, x := range []struct{ got, want []api.Span }{
		{spans.Minus(calendar, list(0, 10)), list(10, 1024)},
		{spans.Minus(calendar, list(10, 20)), list(0, 10, 20, 1024)},
		{spans.Minus(list(-5, 2000), list(1023, 1024)), list(0, 1023)},
		{spans.Minus(list(5, 9), list(math.MinInt, math.MaxInt)), nil},
		{spans.Minus(list(5, 9), nil), list(5, 9)},
		{spans.Minus(nil, list(5, 9)), nil},
		{spans.Union(list(1, 3), list(3, 5)), list(1, 5)},
		{spans.Union(list(4, 5), list(1, 3)), list(1, 3, 4, 5)},
		{spans.Union(nil, list(9, 12, 8, 10)), list(8, 12)},
		{spans.Union(list(9, 12, 8, 10), nil), list(8, 12)},
		{spans.Union(nil, nil), nil},
		{spans.Meet(list(1, 9), list(4, 12)), list(4, 9)},
		{spans.Meet(list(1, 3), list(3, 5)), nil},
		{spans.Meet(list(1, 9), list(7, 8, 2, 3, 3, 4)), list(2, 4, 7, 8)},
		{spans.Meet(list(-5, 3, 1020, 2000), calendar), list(0, 3, 1020, 1024)},
		{spans.Meet(list(1024, 2000), list(1024, 2000)), nil},
		{spans.Meet(calendar, nil), nil},
	} {
		if !slices.Equal(x.got, x.want) {
			t.Error(i, x.got)
		}
	}
}

func TestP3_2AllPairs(t *testing.T) {
	all := lists()
	for i, a := range all {
		for _, b := range [][]api.Span{all[(i*7+3)%len(all)], all[(i*11+5)%len(all)], all[len(all)-1-i], a, nil, list(0, 1024), everySecond(0)} {
			for _, x := range []struct {
				name string
				got  []api.Span
				in   func(day int) bool
			}{
				{"union", spans.Union(a, b), func(day int) bool { return has(a, day) || has(b, day) }},
				{"meet", spans.Meet(a, b), func(day int) bool { return has(a, day) && has(b, day) }},
				{"minus", spans.Minus(a, b), func(day int) bool { return has(a, day) && !has(b, day) }},
			} {
				if !slices.Equal(x.got, normal(x.in)) {
					t.Error(x.name, a, b, x.got)
				}
			}
		}
	}
}

func TestP3_3HasOfExamples(t *testing.T) {
	wide := list(math.MinInt, math.MaxInt)
	for i, x := range []struct {
		l    []api.Span
		day  int
		want bool
	}{
		{nil, 0, false},
		{list(0, 0), 0, false},
		{list(5, 5), 5, false},
		{list(7, 3), 5, false},
		{list(5, 9), 4, false},
		{list(5, 9), 5, true},
		{list(5, 9), 8, true},
		{list(5, 9), 9, false},
		{list(5, 9, 1, 3), 1, true},
		{list(5, 9, 1, 3), 3, false},
		{list(9, 5, 5, 9), 6, true},
		{list(0, 1), 0, true},
		{list(1023, 1024), 1023, true},
		{list(-5, 2000), -1, false},
		{list(-5, 2000), 1024, false},
		{wide, 0, true},
		{wide, 1023, true},
		{wide, -1, false},
		{wide, 1024, false},
		{wide, math.MinInt, false},
		{wide, math.MaxInt - 1, false},
		{wide, math.MaxInt, false},
	} {
		if spans.Has(x.l, x.day) != x.want {
			t.Error(i, x.l, x.day)
		}
	}
}

func TestP3_3Has(t *testing.T) {
	for _, l := range lists() {
		for day := -45; day < 1100; day++ {
			if spans.Has(l, day) != has(l, day) {
				t.Error(l, day)
			}
		}
		for _, day := range ends {
			if spans.Has(l, day) != has(l, day) {
				t.Error(l, day)
			}
		}
	}
}

func TestP3_3CoversOfExamples(t *testing.T) {
	wide := list(math.MinInt, math.MaxInt)
	for i, x := range []struct {
		l    []api.Span
		s    api.Span
		want bool
	}{
		{list(0, 10, 10, 20), api.Span{From: 5, To: 15}, true},
		{list(10, 20, 0, 10), api.Span{From: 0, To: 20}, true},
		{list(0, 10, 11, 20), api.Span{From: 5, To: 15}, false},
		{list(0, 10, 11, 20), api.Span{From: 10, To: 11}, false},
		{list(5, 9), api.Span{From: 5, To: 9}, true},
		{list(5, 9), api.Span{From: 4, To: 9}, false},
		{list(5, 9), api.Span{From: 5, To: 10}, false},
		{nil, api.Span{From: 7, To: 7}, true},
		{nil, api.Span{}, true},
		{nil, api.Span{From: 7, To: 8}, false},
		{nil, api.Span{From: 9, To: 3}, true},
		{nil, api.Span{From: -1, To: -1}, true},
		{nil, api.Span{From: 2000, To: 2000}, true},
		{nil, api.Span{From: 2000, To: -2000}, true},
		{nil, api.Span{From: math.MaxInt, To: math.MinInt}, true},
		{nil, api.Span{From: math.MinInt, To: math.MinInt}, true},
		{list(0, 1024), api.Span{From: 0, To: 1024}, true},
		{list(0, 1024), api.Span{From: 1023, To: 1024}, true},
		{wide, api.Span{From: 0, To: 1024}, true},
		{wide, api.Span{From: -1, To: 0}, false},
		{wide, api.Span{From: -1, To: 5}, false},
		{wide, api.Span{From: 1024, To: 1025}, false},
		{wide, api.Span{From: 1000, To: 1025}, false},
		{wide, api.Span{From: math.MinInt, To: math.MaxInt}, false},
		{wide, api.Span{From: math.MinInt, To: 3}, false},
		{wide, api.Span{From: 3, To: math.MaxInt}, false},
		{wide, api.Span{From: math.MaxInt - 1, To: math.MaxInt}, false},
	} {
		if spans.Covers(x.l, x.s) != x.want {
			t.Error(i, x.l, x.s)
		}
	}
}

// covers is Covers by its definition, for a span of few numbers.
func covers(l []api.Span, s api.Span) bool {
	for m := s.From; m < s.To; m++ {
		if !has(l, m) {
			return false
		}
	}
	return true
}

func TestP3_3Covers(t *testing.T) {
	for _, l := range lists() {
		for from := -3; from < 1030; from += 3 {
			for _, length := range []int{-2, 0, 1, 2, 5, 40} {
				if s := (api.Span{From: from, To: from + length}); spans.Covers(l, s) != covers(l, s) {
					t.Error(l, s)
				}
			}
		}
	}
}

// R2 and R3, for all functions.
func TestP3_3ArgumentsAreKept(t *testing.T) {
	for _, l := range lists() {
		a, b := slices.Clone(l), list(30, 20, 5, 9, -4, 6)
		spans.Check(a)
		x := [][]api.Span{spans.Normal(a), spans.Union(a, b), spans.Union(b, a), spans.Meet(a, b), spans.Minus(a, b), spans.Minus(a, nil)}
		spans.Has(a, 7)
		spans.Covers(a, b[1])
		for _, l := range x {
			for i := range l {
				l[i] = api.Span{From: -1, To: -1}
			}
		}
		if !slices.Equal(a, l) || !slices.Equal(b, list(30, 20, 5, 9, -4, 6)) {
			t.Error(l)
		}
	}
}

func TestP3_3NilAndEmpty(t *testing.T) {
	none, a := []api.Span{}, list(3, 9)
	if spans.Check(none) != spans.Check(nil) || spans.Has(none, 0) || spans.Has(nil, 0) || spans.Covers(none, a[0]) || spans.Covers(nil, a[0]) {
		t.Error("Check, Has, Covers")
	}
	for i, x := range [][2][]api.Span{
		{spans.Normal(none), spans.Normal(nil)},
		{spans.Union(a, none), spans.Union(a, nil)},
		{spans.Union(none, a), spans.Union(nil, a)},
		{spans.Meet(none, a), spans.Meet(nil, a)},
		{spans.Minus(none, a), spans.Minus(nil, a)},
		{spans.Minus(a, none), spans.Minus(a, nil)},
	} {
		if !slices.Equal(x[0], x[1]) {
			t.Error(i, x)
		}
	}
}
