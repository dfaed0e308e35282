package facts_test

import (
	"math"
	"math/rand"

	"backflush/api"
)

// fact returns a fact about a key, with its days, the time from which it is known, and its number.
func fact(k api.Key, value, from, to, known, no int) api.Fact {
	return api.Fact{Key: k, Value: value, Valid: api.Span{From: from, To: to}, Known: known, No: no}
}

// key returns a key with an object only.
func key(object int) api.Key { return api.Key{Object: object} }

// first is a key with three different numbers.
var first = api.Key{Kind: 3, Subject: 40, Object: 5}

// story is the example of the chapter.
var story = []api.Fact{
	fact(first, 7, 2, 6, 10, 0),
	fact(first, -1, 3, 4, 20, 0),
}

// ends are numbers on both sides of all that matters to a list.
var ends = []int{math.MinInt, math.MinInt + 1, -5, -1, 0, 1, 2, 5, 500, 1022, 1023, 1024, 1025, 2000, math.MaxInt - 1, math.MaxInt}

// few returns keys of which each differs from the others in one number or two.
func few() []api.Key {
	return []api.Key{{}, {Kind: 1}, {Subject: 1}, {Object: 1}, {Kind: 1, Subject: 1}, {Object: -1}, {Kind: math.MaxInt, Object: math.MinInt}}
}

// random returns a list of facts about few keys, with many equal times and numbers; half of the lists are not valid.
func random(r *rand.Rand) (l []api.Fact) {
	wild := r.Intn(2) == 0
	for range r.Intn(14) {
		from := r.Intn(30)
		f := fact(few()[r.Intn(5)], r.Intn(5)-1, from, from+1+r.Intn(12), 1+r.Intn(6), r.Intn(4))
		if r.Intn(4) == 0 {
			f.Valid.From, f.Valid.To = f.Valid.From+990, min(f.Valid.To+990, 1024)
		}
		if wild && r.Intn(3) == 0 {
			f.Key = few()[r.Intn(7)]
			f.Value = r.Intn(6) - 3
			f.Valid = api.Span{From: ends[r.Intn(len(ends))], To: ends[r.Intn(len(ends))]}
			f.Known, f.No = r.Intn(9)-1, ends[r.Intn(len(ends))]
		}
		l = append(l, f)
	}
	return l
}

// lists returns lists of all sorts.
func lists() (all [][]api.Fact) {
	all = [][]api.Fact{nil, {}, {{}}, story, {story[1], story[0]}, story[:1], story[1:]}
	for _, from := range ends {
		for _, to := range ends {
			all = append(all, []api.Fact{fact(first, 4, from, to, 1, 0), fact(first, 5, 1020, 1030, 2, 0), fact(first, 6, -3, 2, 3, 0)})
		}
	}
	r := rand.New(rand.NewSource(4))
	for range 250 {
		all = append(all, random(r))
	}
	return all
}

// value is At by its definition: it takes a fact that counts only if no other one comes after it.
func value(l []api.Fact, k api.Key, day, known int) (int, bool) {
	for i, f := range l {
		last := about(f, k, day, known)
		for j, g := range l {
			last = last && (!about(g, k, day, known) || !after(g, f) && (after(f, g) || j <= i))
		}
		if last && f.Value >= 0 {
			return f.Value, true
		}
	}
	return 0, false
}

// about reports whether f is one of the facts from which the one that counts is taken.
func about(f api.Fact, k api.Key, day, known int) bool {
	return f.Key == k && f.Valid.From <= day && day < f.Valid.To && f.Known <= known
}

// after reports whether f is later than g in the order of facts.
func after(f, g api.Fact) bool {
	return f.Known > g.Known || f.Known == g.Known && f.No > g.No
}

// points is Points by its definition.
func points(l []api.Fact, k api.Key, from, to, known int) (p []api.Point) {
	for day := range 1024 {
		if v, ok := value(l, k, day, known); ok && from <= day && day < to {
			p = append(p, api.Point{Day: day, Value: v})
		}
	}
	return p
}
