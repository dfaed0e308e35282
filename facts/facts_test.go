package facts_test

import (
	"math"
	"slices"
	"testing"

	"backflush/api"
	"backflush/facts"
)

// plain is a valid fact.
var plain = fact(first, 7, 2, 6, 10, 3)

// changedFact returns plain after a change.
func changedFact(change func(f *api.Fact)) api.Fact {
	f := plain
	change(&f)
	return f
}

// fields are the numbers of a fact with their bounds.
func fields() map[string]struct {
	of              func(f *api.Fact) *int
	least, greatest int
} {
	return map[string]struct {
		of              func(f *api.Fact) *int
		least, greatest int
	}{
		"Kind":    {func(f *api.Fact) *int { return &f.Key.Kind }, 0, 15},
		"Subject": {func(f *api.Fact) *int { return &f.Key.Subject }, 0, 4095},
		"Object":  {func(f *api.Fact) *int { return &f.Key.Object }, 0, 1023},
		"Value":   {func(f *api.Fact) *int { return &f.Value }, -1, 1 << 20},
		"From":    {func(f *api.Fact) *int { return &f.Valid.From }, 0, 5},
		"To":      {func(f *api.Fact) *int { return &f.Valid.To }, 3, 1024},
		"Known":   {func(f *api.Fact) *int { return &f.Known }, 1, 1 << 24},
		"No":      {func(f *api.Fact) *int { return &f.No }, 0, 65535},
	}
}

func TestP4_1BoundsOfFields(t *testing.T) {
	for name, x := range fields() {
		for _, n := range []int{x.least, x.least + 1, x.greatest, math.MinInt, x.least - 1, x.greatest + 1, math.MaxInt} {
			f := changedFact(func(f *api.Fact) { *x.of(f) = n })
			want := api.OK
			if n < x.least || n > x.greatest {
				want = api.ErrFact
			}
			if e := facts.Check([]api.Fact{f}); e != want {
				t.Error(name, n, e)
			}
			for i, l := range [][]api.Fact{nil, {fact(first, 1, 0, 9, 1, 0)}} {
				if i == 1 && f.Known == 1 && f.No > 0 {
					l[0].No = f.No - 1
				}
				x, e := facts.Add(l, f)
				if e != want || e == api.OK && !slices.Equal(x, append(slices.Clone(l), f)) || e != api.OK && len(x) > 0 {
					t.Error(name, n, x, e)
				}
			}
		}
	}
}

func TestP4_1Check(t *testing.T) {
	k := first
	for i, x := range []struct {
		l    []api.Fact
		want api.Errno
	}{
		{nil, api.OK},
		{[]api.Fact{}, api.OK},
		{[]api.Fact{{}}, api.ErrFact},
		{story, api.OK},
		{[]api.Fact{story[1], story[0]}, api.ErrOrder},
		{[]api.Fact{plain}, api.OK},
		{[]api.Fact{plain, plain}, api.ErrOrder},
		{[]api.Fact{fact(k, 1, 0, 1, 5, 0), fact(k, 1, 0, 1, 5, 1), fact(k, 1, 0, 1, 5, 2)}, api.OK},
		{[]api.Fact{fact(k, 1, 0, 1, 5, 0), fact(k, 1, 0, 1, 5, 7), fact(k, 1, 0, 1, 6, 0)}, api.OK},
		{[]api.Fact{fact(k, 1, 0, 1, 5, 0), fact(key(1), 1, 0, 1, 5, 0)}, api.ErrOrder},
		{[]api.Fact{fact(k, 1, 0, 1, 5, 1), fact(k, 1, 0, 1, 5, 0)}, api.ErrOrder},
		{[]api.Fact{fact(k, 1, 0, 1, 5, 0), fact(k, 1, 0, 1, 4, 1)}, api.ErrOrder},
		{[]api.Fact{fact(k, 1, 0, 1, 5, 0), fact(k, 1, 0, 1, 6, 0), fact(k, 1, 0, 1, 6, 0)}, api.ErrOrder},
		{[]api.Fact{fact(k, 1, 0, 1, 5, 0), fact(k, 1, 0, 1, 4, 0), fact(k, 1, 0, 1, 6, 0)}, api.ErrOrder},
		{[]api.Fact{fact(k, 1, 0, 1, 5, 0), fact(k, 1, 0, 1, 4, 0), fact(k, 1, 3, 3, 6, 0)}, api.ErrFact},
		{[]api.Fact{fact(k, 1, 3, 3, 5, 0), fact(k, 1, 0, 1, 4, 0)}, api.ErrFact},
		{[]api.Fact{fact(k, 1, 4, 3, 5, 0)}, api.ErrFact},
		{[]api.Fact{fact(k, 1, 0, 1024, 1, 0)}, api.OK},
		{[]api.Fact{fact(k, 1, 1023, 1024, 1, 0)}, api.OK},
		{[]api.Fact{fact(k, 1, 1023, 1025, 1, 0)}, api.ErrFact},
		{[]api.Fact{fact(k, 1, -1, 1, 1, 0)}, api.ErrFact},
		{[]api.Fact{fact(k, 1, math.MinInt, math.MaxInt, 1, 0)}, api.ErrFact},
		{[]api.Fact{fact(k, 1, math.MaxInt, math.MinInt, 1, 0)}, api.ErrFact},
		{[]api.Fact{fact(api.Key{}, 0, 0, 1, 1, 0)}, api.OK},
		{[]api.Fact{fact(api.Key{Kind: 15, Subject: 4095, Object: 1023}, 1<<20, 0, 1, 1<<24, 65535)}, api.OK},
	} {
		if e := facts.Check(x.l); e != x.want {
			t.Error(i, e)
		}
	}
}

func TestP4_1Add(t *testing.T) {
	k := first
	bad := fact(k, 1, 3, 3, 30, 0)
	for i, x := range []struct {
		l    []api.Fact
		f    api.Fact
		want api.Errno
	}{
		{nil, plain, api.OK},
		{[]api.Fact{}, plain, api.OK},
		{nil, api.Fact{}, api.ErrFact},
		{nil, bad, api.ErrFact},
		{story, fact(k, 1, 0, 1, 20, 1), api.OK},
		{story, fact(k, 1, 0, 1, 21, 0), api.OK},
		{story, fact(k, 1, 0, 1, 20, 0), api.ErrOrder},
		{story, story[1], api.ErrOrder},
		{story, story[0], api.ErrOrder},
		{story, fact(k, 1, 0, 1, 19, 9), api.ErrOrder},
		{story, fact(key(9), 1, 0, 1, 20, 0), api.ErrOrder},
		{story, bad, api.ErrFact},
		{story, fact(k, 1, 3, 3, 1, 0), api.ErrFact},
		{[]api.Fact{story[1], story[0]}, fact(k, 1, 0, 1, 30, 0), api.ErrOrder},
		{[]api.Fact{story[1], story[0]}, bad, api.ErrOrder},
		{[]api.Fact{{}}, plain, api.ErrFact},
		{[]api.Fact{bad, plain}, plain, api.ErrFact},
	} {
		got, e := facts.Add(x.l, x.f)
		if e != x.want {
			t.Error(i, e)
		}
		if e == api.OK && !slices.Equal(got, append(slices.Clone(x.l), x.f)) || e != api.OK && len(got) > 0 {
			t.Error(i, got)
		}
	}
}

func TestP4_1AddTwiceToOneList(t *testing.T) {
	l := append(make([]api.Fact, 0, 9), story...)
	a, _ := facts.Add(l, fact(first, 1, 0, 1, 30, 0))
	b, _ := facts.Add(l, fact(first, 2, 0, 1, 30, 0))
	a[0].Value = 99
	if a[2].Value != 1 || b[2].Value != 2 || b[0] != story[0] || l[0] != story[0] {
		t.Error(a, b, l)
	}
}

func TestP4_1AllLists(t *testing.T) {
	next := fact(first, 1, 0, 1, 1<<24, 65535)
	for _, l := range lists() {
		want := api.OK
		for i := range l {
			if i > 0 && !after(l[i], l[i-1]) {
				want = api.ErrOrder
			}
		}
		for _, f := range l {
			if facts.Check([]api.Fact{f}) != api.OK {
				want = api.ErrFact
			}
		}
		if e := facts.Check(l); e != want {
			t.Error(l, e)
		}
		if x, e := facts.Add(l, next); e != want || (e == api.OK) != (len(x) == len(l)+1) {
			t.Error(l, x, e)
		}
	}
}

func TestP4_2AtOfExamples(t *testing.T) {
	k := first
	twice := []api.Fact{fact(k, 1, 0, 9, 5, 0), fact(k, 2, 0, 9, 5, 1)}
	wide := []api.Fact{fact(k, 8, math.MinInt, math.MaxInt, 5, 0)}
	for i, x := range []struct {
		l          []api.Fact
		k          api.Key
		day, known int
		want       int
		ok         bool
	}{
		{nil, k, 0, 0, 0, false},
		{[]api.Fact{}, k, 0, 0, 0, false},
		{story, k, 3, 9, 0, false},
		{story, k, 3, 10, 7, true},
		{story, k, 3, 15, 7, true},
		{story, k, 3, 19, 7, true},
		{story, k, 3, 20, 0, false},
		{story, k, 3, math.MaxInt, 0, false},
		{story, k, 3, math.MinInt, 0, false},
		{story, k, 1, 20, 0, false},
		{story, k, 2, 20, 7, true},
		{story, k, 4, 20, 7, true},
		{story, k, 5, 20, 7, true},
		{story, k, 6, 20, 0, false},
		{story, api.Key{Kind: 4, Subject: 40, Object: 5}, 2, 20, 0, false},
		{story, api.Key{Kind: 3, Subject: 41, Object: 5}, 2, 20, 0, false},
		{story, api.Key{Kind: 3, Subject: 40, Object: 6}, 2, 20, 0, false},
		{[]api.Fact{story[1], story[0]}, k, 3, 20, 0, false},
		{[]api.Fact{story[1], story[0]}, k, 3, 15, 7, true},
		{twice, k, 4, 5, 2, true},
		{[]api.Fact{twice[1], twice[0]}, k, 4, 5, 2, true},
		{[]api.Fact{fact(k, 1, 0, 9, 5, 0), fact(k, 2, 0, 9, 5, 0)}, k, 4, 5, 2, true},
		{[]api.Fact{fact(k, 2, 0, 9, 5, 0), fact(k, 1, 0, 9, 5, 0)}, k, 4, 5, 1, true},
		{[]api.Fact{fact(k, 9, 0, 9, 5, 0), fact(k, 1, 0, 9, 6, 0)}, k, 4, 6, 1, true},
		{[]api.Fact{fact(k, 9, 0, 9, 5, 0), fact(k, 0, 0, 9, 6, 0)}, k, 4, 6, 0, true},
		{[]api.Fact{fact(k, 9, 0, 9, 5, 8), fact(k, 1, 0, 9, 6, 0)}, k, 4, 6, 1, true},
		{[]api.Fact{fact(k, 9, 0, 9, 5, 8), fact(k, 1, 0, 9, 6, 0)}, k, 4, 5, 9, true},
		{[]api.Fact{fact(k, -1, 0, 9, 5, 0), fact(k, 3, 0, 9, 6, 0)}, k, 4, 6, 3, true},
		{[]api.Fact{fact(k, 3, 0, 9, 5, 0), fact(k, -2, 0, 9, 6, 0)}, k, 4, 6, 0, false},
		{[]api.Fact{fact(k, 3, 0, 9, 5, 0), fact(k, math.MinInt, 0, 9, 6, 0)}, k, 4, 6, 0, false},
		{[]api.Fact{fact(k, math.MaxInt, 0, 9, 5, 0)}, k, 4, 6, math.MaxInt, true},
		{[]api.Fact{fact(k, 4, 0, 9, math.MinInt, math.MinInt)}, k, 4, math.MinInt, 4, true},
		{[]api.Fact{fact(k, 4, 0, 9, math.MaxInt, 0)}, k, 4, math.MaxInt, 4, true},
		{[]api.Fact{fact(k, 4, 0, 9, math.MaxInt, 0)}, k, 4, math.MaxInt - 1, 0, false},
		{[]api.Fact{fact(k, 4, 0, 9, 5, math.MaxInt), fact(k, 5, 0, 9, 5, math.MinInt)}, k, 4, 5, 4, true},
		{[]api.Fact{fact(k, 4, -9, 2000, 5, 0)}, k, -9, 5, 4, true},
		{[]api.Fact{fact(k, 4, -9, 2000, 5, 0)}, k, -10, 5, 0, false},
		{[]api.Fact{fact(k, 4, -9, 2000, 5, 0)}, k, 1999, 5, 4, true},
		{[]api.Fact{fact(k, 4, -9, 2000, 5, 0)}, k, 2000, 5, 0, false},
		{[]api.Fact{fact(k, 4, 9, 2, 5, 0)}, k, 5, 5, 0, false},
		{[]api.Fact{fact(k, 4, 5, 5, 5, 0)}, k, 5, 5, 0, false},
		{wide, k, math.MinInt, 5, 8, true},
		{wide, k, math.MaxInt - 1, 5, 8, true},
		{wide, k, math.MaxInt, 5, 0, false},
	} {
		if got, ok := facts.At(x.l, x.k, x.day, x.known); got != x.want || ok != x.ok {
			t.Error(i, got, ok)
		}
	}
}

func TestP4_2AtOfAllLists(t *testing.T) {
	for _, l := range lists() {
		for _, k := range append(few(), first) {
			for _, day := range append(slices.Clone(ends), 3, 8, 12, 20, 26, 1000, 1015) {
				for _, known := range []int{math.MinInt, 0, 1, 2, 3, 4, 6, 15, 20, math.MaxInt} {
					got, ok := facts.At(l, k, day, known)
					if want, has := value(l, k, day, known); got != want || ok != has {
						t.Error(l, k, day, known, got, ok)
					}
				}
			}
		}
	}
}

func TestP4_2PointsOfExamples(t *testing.T) {
	seven := func(days ...int) (p []api.Point) {
		for _, day := range days {
			p = append(p, api.Point{Day: day, Value: 7})
		}
		return p
	}
	wide := []api.Fact{fact(first, 7, math.MinInt, math.MaxInt, 10, 0)}
	for i, x := range []struct {
		l               []api.Fact
		from, to, known int
		want            []api.Point
	}{
		{story, 5, 5, 20, nil},
		{story, 4, 3, 20, nil},
		{story, 0, 1024, 20, seven(2, 4, 5)},
		{story, 0, 1024, 15, seven(2, 3, 4, 5)},
		{story, 0, 1024, 9, nil},
		{story, 3, 5, 15, seven(3, 4)},
		{story, 3, 5, 20, seven(4)},
		{story, math.MinInt, math.MaxInt, 20, seven(2, 4, 5)},
		{story, math.MaxInt, math.MinInt, 20, nil},
		{story, math.MinInt, math.MinInt, 20, nil},
		{story, math.MaxInt, math.MaxInt, 20, nil},
		{story, 6, 1024, 20, nil},
		{[]api.Fact{story[1], story[0]}, 0, 1024, 20, seven(2, 4, 5)},
		{nil, 0, 1024, 20, nil},
		{wide, -3, 2, 10, seven(0, 1)},
		{wide, 1022, 1030, 10, seven(1022, 1023)},
		{wide, 1024, 1030, 10, nil},
		{wide, -9, 0, 10, nil},
		{wide, 1024, 1025, 10, nil},
		{[]api.Fact{fact(first, 7, 2000, 3000, 10, 0)}, 0, 3000, 10, nil},
		{[]api.Fact{fact(first, 7, -5, 1, 10, 0)}, -9, 3000, 10, seven(0)},
		{[]api.Fact{fact(first, 7, 8, 3, 10, 0)}, 0, 1024, 10, nil},
		{append(slices.Clone(wide), fact(first, -9, 1, 1024, 11, 0)), 0, 1024, 11, seven(0)},
		{[]api.Fact{fact(first, 0, 3, 4, 10, 0)}, 0, 1024, 10, []api.Point{{Day: 3}}},
	} {
		if got := facts.Points(x.l, first, x.from, x.to, x.known); !slices.Equal(got, x.want) {
			t.Error(i, got)
		}
	}
	if got := facts.Points(wide, first, math.MinInt, math.MaxInt, 10); len(got) != 1024 || got[1023] != (api.Point{Day: 1023, Value: 7}) {
		t.Error(len(got))
	}
	if got := facts.Points(story, key(5), 0, 1024, 20); len(got) > 0 {
		t.Error("another key", got)
	}
}

func TestP4_2PointsOfAllLists(t *testing.T) {
	for i, l := range lists() {
		k := append(few(), first)[i%8]
		if len(l) > 0 {
			k = l[i%len(l)].Key
		}
		for _, known := range []int{math.MinInt, 0, 2, 4, math.MaxInt} {
			from, to := ends[i%len(ends)], ends[(i/3+known)&15]
			for _, s := range []api.Span{{From: 0, To: 1024}, {From: from, To: to}, {From: 4, To: 21}} {
				if got := facts.Points(l, k, s.From, s.To, known); !slices.Equal(got, points(l, k, s.From, s.To, known)) {
					t.Error(l, k, s, known, got)
				}
			}
		}
	}
}

// A list of many long facts must not take the time of all their days.
func TestP4_2PointsOfManyFacts(t *testing.T) {
	l := make([]api.Fact, 1<<18)
	for i := range l {
		l[i] = fact(first, i, 0, 1024, 1+i, 0)
	}
	for _, known := range []int{1, 5, 1 << 17, 1 << 18} {
		got := facts.Points(l, first, 1000, 1001, known)
		if !slices.Equal(got, []api.Point{{Day: 1000, Value: known - 1}}) {
			t.Error(known, got)
		}
	}
	slices.Reverse(l)
	if got := facts.Changed(l, 7, 1<<18); len(got) != 1 || !slices.Equal(got[0].Days, []api.Span{{To: 1024}}) {
		t.Error(got)
	}
}
