package facts_test

import (
	"cmp"
	"math"
	"reflect"
	"slices"
	"testing"

	"backflush/api"
	"backflush/facts"
)

// times are times of two sides of what is known.
var times = []int{math.MinInt, 0, 1, 3, 4, 15, 20, math.MaxInt}

// differs reports whether k differs on a day, by its definition.
func differs(l []api.Fact, k api.Key, day, before, after int) bool {
	v, has := value(l, k, day, before)
	w, had := value(l, k, day, after)
	return v != w || has != had
}

// changed is Changed by its definition: it begins a span after each day that does not differ, and ends it before the next one.
func changed(l []api.Fact, before, after int) (c []api.Differ) {
	var keys []api.Key
	for _, f := range l {
		if !slices.Contains(keys, f.Key) {
			keys = append(keys, f.Key)
		}
	}
	slices.SortFunc(keys, func(a, b api.Key) int {
		return cmp.Or(cmp.Compare(a.Kind, b.Kind), cmp.Compare(a.Subject, b.Subject), cmp.Compare(a.Object, b.Object))
	})
	for _, k := range keys {
		var in [1026]bool
		for day := range 1024 {
			in[day+1] = differs(l, k, day, before, after)
		}
		var days []api.Span
		for day := range 1024 {
			if in[day+1] && !in[day] {
				days = append(days, api.Span{From: day})
			}
			if in[day+1] && !in[day+2] {
				days[len(days)-1].To = day + 1
			}
		}
		if len(days) > 0 {
			c = append(c, api.Differ{Key: k, Days: days})
		}
	}
	return c
}

func same(a, b []api.Differ) bool {
	return len(a) == 0 && len(b) == 0 || reflect.DeepEqual(a, b)
}

// one is a list of one key with the spans from and to the numbers of each pair of ends.
func one(k api.Key, ends ...int) []api.Differ {
	d := api.Differ{Key: k}
	for pair := range slices.Chunk(ends, 2) {
		d.Days = append(d.Days, api.Span{From: pair[0], To: pair[1]})
	}
	return []api.Differ{d}
}

func TestP4_3ChangedOfExamples(t *testing.T) {
	k := first
	wide := []api.Fact{fact(k, 8, math.MinInt, math.MaxInt, 5, 0)}
	inOrder := []api.Key{{}, {Object: 3}, {Subject: 1}, {Subject: 1, Object: 2}, {Kind: 1}, {Kind: 1, Subject: 2, Object: 1}, {Kind: 2}}
	var many []api.Fact
	var all []api.Differ
	for i, k := range inOrder {
		many = append(many, fact(inOrder[(i*3+2)%7], 1, 4, 6, 9, i))
		all = append(all, one(k, 4, 6)...)
	}
	for i, x := range []struct {
		l             []api.Fact
		before, after int
		want          []api.Differ
	}{
		{nil, 1, 2, nil},
		{[]api.Fact{}, 1, 2, nil},
		{story, 15, 20, one(k, 3, 4)},
		{story, 20, 15, one(k, 3, 4)},
		{story, 9, 15, one(k, 2, 6)},
		{story, 9, 20, one(k, 2, 3, 4, 6)},
		{story, math.MinInt, math.MaxInt, one(k, 2, 3, 4, 6)},
		{story, math.MaxInt, math.MinInt, one(k, 2, 3, 4, 6)},
		{story, 15, 15, nil},
		{story, 10, 19, nil},
		{story, 20, math.MaxInt, nil},
		{story, math.MinInt, 9, nil},
		{[]api.Fact{story[1], story[0]}, 15, 20, one(k, 3, 4)},
		{wide, 4, 5, one(k, 0, 1024)},
		{append(slices.Clone(wide), fact(k, 9, 1, 1023, 6, 0)), 5, 6, one(k, 1, 1023)},
		{append(slices.Clone(wide), fact(k, 8, 1, 1023, 6, 0)), 5, 6, nil},
		{append(slices.Clone(wide), fact(k, 7, 1, 9, 6, 0), fact(k, 6, 9, 20, 7, 0)), 5, 7, one(k, 1, 20)},
		{append(slices.Clone(wide), fact(k, 7, 1, 9, 6, 0), fact(k, 8, 5, 6, 7, 0)), 5, 7, one(k, 1, 5, 6, 9)},
		{append(slices.Clone(wide), fact(k, 7, 1, 9, 6, 0), fact(k, 8, 1, 9, 7, 0)), 5, 7, nil},
		{[]api.Fact{fact(k, -1, 1, 9, 6, 0)}, 5, 7, nil},
		{[]api.Fact{fact(k, 0, 1, 9, 6, 0)}, 5, 7, one(k, 1, 9)},
		{[]api.Fact{fact(k, -1, 1, 9, 6, 0), fact(k, -2, 1, 9, 7, 0)}, 6, 7, nil},
		{[]api.Fact{fact(k, math.MinInt, 1, 9, 6, 0)}, 5, 7, nil},
		{[]api.Fact{fact(k, 3, 1024, 2000, 6, 0)}, 5, 7, nil},
		{[]api.Fact{fact(k, 3, -9, 0, 6, 0)}, 5, 7, nil},
		{[]api.Fact{fact(k, 3, 9, 1, 6, 0)}, 5, 7, nil},
		{many, 5, 9, all},
		{many, 9, 10, nil},
	} {
		if got := facts.Changed(x.l, x.before, x.after); !same(got, x.want) {
			t.Error(i, got)
		}
	}
}

func TestP4_3ChangedOfAllLists(t *testing.T) {
	for i, l := range lists() {
		for _, before := range []int{times[i%8], times[(i+3)%8]} {
			for _, after := range []int{2, times[(i/8)%8]} {
				if got := facts.Changed(l, before, after); !same(got, changed(l, before, after)) {
					t.Error(l, before, after, got)
				}
			}
		}
	}
}

func TestP4_3AlikeOfExamples(t *testing.T) {
	k := first
	wide := []api.Fact{fact(k, 8, math.MinInt, math.MaxInt, 5, 0)}
	read := func(k api.Key, from, to int) []api.Read { return []api.Read{{Key: k, From: from, To: to}} }
	for i, x := range []struct {
		l             []api.Fact
		reads         []api.Read
		before, after int
		want          bool
	}{
		{nil, nil, 1, 2, true},
		{story, nil, 15, 20, true},
		{story, []api.Read{}, 15, 20, true},
		{nil, read(k, 0, 1024), 15, 20, true},
		{story, read(k, 3, 4), 15, 20, false},
		{story, read(k, 3, 4), 20, 15, false},
		{story, read(k, 3, 4), 20, 20, true},
		{story, read(k, 0, 3), 15, 20, true},
		{story, read(k, 4, 1024), 15, 20, true},
		{story, read(k, 0, 1024), 15, 20, false},
		{story, read(k, math.MinInt, math.MaxInt), 15, 20, false},
		{story, read(k, math.MaxInt, math.MinInt), 15, 20, true},
		{story, read(k, 3, 3), 15, 20, true},
		{story, read(k, 4, 3), 15, 20, true},
		{story, read(k, 1023, 3), 15, 20, true},
		{story, read(api.Key{Kind: 3, Subject: 40, Object: 6}, 0, 1024), 15, 20, true},
		{story, read(api.Key{Kind: 3, Subject: 41, Object: 5}, 0, 1024), 15, 20, true},
		{story, read(api.Key{Kind: 4, Subject: 40, Object: 5}, 0, 1024), 15, 20, true},
		{story, append(read(key(1), 0, 9), read(k, 0, 9)...), 15, 20, false},
		{story, append(read(k, 0, 9), read(key(1), 0, 9)...), 15, 20, false},
		{story, append(read(k, 0, 3), read(k, 4, 9)...), 15, 20, true},
		{story, append(read(k, 0, 3), read(k, 3, 9)...), 15, 20, false},
		{story, read(k, 0, 1024), 10, 19, true},
		{story, read(k, 3, 4), math.MinInt, 20, true},
		{story, read(k, 2, 3), math.MinInt, 20, false},
		{wide, read(k, -9, 0), 4, 5, true},
		{wide, read(k, 1024, 2000), 4, 5, true},
		{wide, read(k, 1024, math.MaxInt), 4, 5, true},
		{wide, read(k, 1023, 1024), 4, 5, false},
		{wide, read(k, -9, 1), 4, 5, false},
	} {
		if facts.Alike(x.l, x.reads, x.before, x.after) != x.want {
			t.Error(i)
		}
	}
}

func TestP4_3AlikeOfAllLists(t *testing.T) {
	for i, l := range lists() {
		before, after := times[i%8], times[(i/8+3)%8]
		want := true
		var reads []api.Read
		for j, k := range append(few(), first) {
			r := api.Read{Key: k, From: ends[(i+j)%len(ends)], To: ends[(i/5+j*3)%len(ends)]}
			reads = append(reads, r)
			alike := slices.Equal(points(l, k, r.From, r.To, before), points(l, k, r.From, r.To, after))
			want = want && alike
			if facts.Alike(l, []api.Read{r}, before, after) != alike {
				t.Error(l, r, before, after)
			}
		}
		if facts.Alike(l, reads, before, after) != want {
			t.Error(l, reads, before, after)
		}
	}
}

func TestP4_3Upto(t *testing.T) {
	unordered := []api.Fact{fact(first, 1, 0, 1, 9, 0), fact(first, 2, 5, 5, 3, 7), fact(key(1), 3, 0, 1, 9, 0), fact(key(1), 4, 0, 1, math.MinInt, 0), fact(first, 1, 0, 1, 9, 0)}
	pick := func(l []api.Fact, index ...int) (x []api.Fact) {
		for _, i := range index {
			x = append(x, l[i])
		}
		return x
	}
	for i, x := range []struct {
		l     []api.Fact
		known int
		want  []api.Fact
	}{
		{nil, 5, nil},
		{[]api.Fact{}, 5, nil},
		{story, 9, nil},
		{story, 10, story[:1]},
		{story, 19, story[:1]},
		{story, 20, story},
		{story, math.MaxInt, story},
		{story, math.MinInt, nil},
		{unordered, 8, pick(unordered, 1, 3)},
		{unordered, 9, unordered},
		{unordered, 2, pick(unordered, 3)},
		{unordered, math.MinInt, pick(unordered, 3)},
	} {
		if got := facts.Upto(x.l, x.known); !slices.Equal(got, x.want) {
			t.Error(i, got)
		}
	}
}

// R2 and R3, for all functions.
func TestP4_3ArgumentsAreKept(t *testing.T) {
	for _, l := range lists() {
		a := append(make([]api.Fact, 0, len(l)+4), l...)
		reads := []api.Read{{Key: first, From: 5, To: 2}, {Key: key(1), From: -4, To: 9}}
		facts.Check(a)
		facts.At(a, first, 3, 20)
		facts.Alike(a, reads, 1, 20)
		facts.Changed(a, 1, 20)
		facts.Points(a, first, 0, 9, 20)
		added, _ := facts.Add(a, plain)
		for _, x := range [][]api.Fact{added, facts.Upto(a, math.MaxInt)} {
			for i := range x {
				x[i] = api.Fact{Value: 77}
			}
		}
		if !slices.Equal(a, l) || reads[0] != (api.Read{Key: first, From: 5, To: 2}) || reads[1] != (api.Read{Key: key(1), From: -4, To: 9}) {
			t.Error(l)
		}
	}
}

func TestP4_3NilAndEmpty(t *testing.T) {
	none := []api.Fact{}
	if x, e := facts.Add(none, plain); e != api.OK || !slices.Equal(x, []api.Fact{plain}) {
		t.Error("Add", x, e)
	}
	if _, ok := facts.At(none, first, 3, 20); ok || facts.Check(none) != api.OK || len(facts.Points(none, first, 0, 9, 9)) > 0 || len(facts.Changed(none, 1, 9)) > 0 || len(facts.Upto(none, 9)) > 0 {
		t.Error("no facts")
	}
	if !facts.Alike(none, []api.Read{}, 1, 2) || !facts.Alike(story, []api.Read{}, 1, 20) || !facts.Alike(none, []api.Read{{Key: first, To: 9}}, 1, 2) {
		t.Error("Alike")
	}
}
