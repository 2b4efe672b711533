package clump

import (
	"iter"

	"canebrake/api"
)

// culms are how many culms of each age stand.
type culms [api.MaxCulmAge + 1]int

// grove is a grove at work: how it grows, and what stands in it.
type grove struct {
	api.Habit
	culms culms
}

// record is what the book tells of a year: its season, how many culms were ripe in it, which of them were cut, and what stood at its end.
type record struct {
	api.Season
	ripe         int
	taken, stand culms
}

func sum(numbers []int) int {
	total := 0
	for _, n := range numbers {
		total += n
	}
	return total
}

func (w grove) standing() int { return sum(w.culms[:]) }

func (w grove) ripe() int { return sum(w.culms[w.Ripe:]) }

// shoots is what a rate and a rain bring in the next year.
func (w grove) shoots(rate, rain int) int {
	return sum(w.culms[:w.Bears+1]) * rate * rain / (api.Whole * api.Whole)
}

// later is the grove a year later, before anything is cut. Culms of the age Dies have no place any more: they are gone.
func (w grove) later(shoots int) grove {
	older := culms{shoots}
	for age := range w.Dies {
		older[age+1] = w.culms[age]
	}
	w.culms = older
	return w
}

// cut takes ripe culms, the oldest ones first, as many as there are.
func (w grove) cut(number int) (left grove, taken culms) {
	for age := w.Dies; age >= w.Ripe; age-- {
		taken[age] = min(number, w.culms[age])
		w.culms[age] -= taken[age]
		number -= taken[age]
	}
	return w, taken
}

// spared is the grove after a cut, and whether the cut may be made: enough are ripe, and those that are left keep the grove.
func (w grove) spared(number int) (left grove, ok bool) {
	left, _ = w.cut(number)
	return left, number <= w.ripe() && left.standing() >= w.Keep
}

// records yields the years of a book, each with its record, from the first one on.
func records(g api.Grove) iter.Seq2[int, record] {
	return func(yield func(int, record) bool) {
		w := grove{Habit: g.Habit}
		copy(w.culms[:], g.Start)
		if !yield(g.First, record{stand: w.culms}) {
			return
		}
		for i, s := range g.Seasons {
			w = w.later(s.Shots)
			ripe := w.ripe()
			left, taken := w.cut(s.Cut)
			if !yield(g.First+1+i, record{s, ripe, taken, left.culms}) {
				return
			}
			w = left
		}
	}
}

// recordOf is the record of a year of the book.
func recordOf(g api.Grove, year int) (record, api.Errno) {
	if e := Check(g); e != api.OK {
		return record{}, e
	}
	for y, r := range records(g) {
		if y == year {
			return r, api.OK
		}
	}
	return record{}, api.ErrNone
}

// atWork is the grove as it stands at the end of its book.
func atWork(g api.Grove) grove {
	w := grove{Habit: g.Habit}
	for _, r := range records(g) {
		w.culms = r.stand
	}
	return w
}
