package spans

import (
	"iter"

	"backflush/api"
)

// days tells for each day of the calendar whether it is in a set.
type days [api.MaxDay]bool

// daysOf returns the days of l. It counts where spans begin and end instead of marking the days of each span, so that a long list of long spans takes no longer than one of short spans.
func daysOf(l []api.Span) (d days) {
	var change [api.MaxDay + 1]int
	for _, s := range l {
		from, to := max(s.From, 0), min(s.To, api.MaxDay)
		if from < to {
			change[from]++
			change[to]--
		}
	}
	open := 0
	for day := range d {
		open += change[day]
		d[day] = open > 0
	}
	return d
}

// combine returns the normal list of the days for which keep holds of whether a has the day and whether b has it.
func combine(a, b []api.Span, keep func(inA, inB bool) bool) []api.Span {
	first, second := daysOf(a), daysOf(b)
	var kept days
	for day := range kept {
		kept[day] = keep(first[day], second[day])
	}
	return kept.list()
}

// list returns the normal list of d.
func (d *days) list() (x []api.Span) {
	for s := range d.runs() {
		x = append(x, s)
	}
	return x
}

// runs yields the longest sequences of consecutive days of d, in increasing order.
func (d *days) runs() iter.Seq[api.Span] {
	return func(yield func(api.Span) bool) {
		for from := 0; from < len(d); {
			to := from
			for to < len(d) && d[to] {
				to++
			}
			if from < to && !yield(api.Span{From: from, To: to}) {
				return
			}
			from = to + 1
		}
	}
}
