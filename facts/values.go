package facts

import (
	"slices"

	"backflush/api"
)

// values are the values of a key on the days of the calendar; none where there is none.
type values [api.MaxDay]int

// free says for each day, and for the end of the calendar, where to look for the first day from there on without a fact that counts: it is the day itself, or a later one.
type free [api.MaxDay + 1]int

// first returns the first free day from day on, or the end of the calendar. It shortens the way for later calls.
func (next *free) first(day int) int {
	for next[day] != day {
		next[day] = next[next[day]]
		day = next[day]
	}
	return day
}

// valuesAt returns the values of a key, as known at a time, by its facts in their order. It goes from the last fact to the first, so that each day gets a value only once, however many facts it has.
func valuesAt(ordered []api.Fact, known int) (v values) {
	var next free
	for day := range next {
		next[day] = day
	}
	for day := range v {
		v[day] = none
	}
	for _, f := range slices.Backward(ordered) {
		from, to := max(f.Valid.From, 0), min(f.Valid.To, len(v))
		if f.Known > known || from >= to {
			continue
		}
		for day := next.first(from); day < to; day = next.first(day) {
			v[day] = max(f.Value, none)
			next[day] = day + 1
		}
	}
	return v
}

// differing returns the days on which two values differ, as the longest possible spans.
func differing(a, b values) (days []api.Span) {
joining:
	for day := range a {
		last := len(days) - 1
		switch {
		case a[day] == b[day]:
			continue joining
		case last >= 0 && days[last].To == day:
			days[last].To++
		default:
			days = append(days, api.Span{From: day, To: day + 1})
		}
	}
	return days
}
