package cure_test

import (
	"math/rand/v2"
	"slices"

	"canebrake/api"
)

// The model of these tests goes hour by hour, and day by day, through all that may be true: it is slow, and shares nothing with the package.

func copied(b api.Batch) api.Batch {
	poles := make([][]int, len(b.Poles))
	for i, cells := range b.Poles {
		poles[i] = slices.Clone(cells)
	}
	b.Poles = poles
	return b
}

// give lets flow what does by how much one has more than the other one, from the one with more to the one with less.
func give(one, other int, from, to *int, spread int) {
	if one < other {
		one, other, from, to = other, one, to, from
	}
	grams := (one - other) * spread / 1000
	*from -= grams
	*to += grams
}

// modelHour is a batch an hour later.
func modelHour(b api.Batch, spread int) api.Batch {
	next := copied(b)
	for i, cells := range b.Poles {
		give(b.Borax/b.Water, cells[0], &next.Borax, &next.Poles[i][0], spread)
		for k := 1; k < len(cells); k++ {
			give(cells[k-1], cells[k], &next.Poles[i][k-1], &next.Poles[i][k], spread)
		}
	}
	return next
}

// modelRun is a batch after each number of hours, from 0 on.
func modelRun(b api.Batch, spread, hours int) []api.Batch {
	run := []api.Batch{b}
	for range hours {
		b = modelHour(b, spread)
		run = append(run, b)
	}
	return run
}

// modelFirst is, for each spread, and for each pole, the first hour after which its core has enough; never if there is none up to some hour.
func modelFirst(b api.Batch, hours int) [][]int {
	var all [][]int
	for spread := b.Spread.Lo; spread <= b.Spread.Hi; spread++ {
		run := modelRun(b, spread, hours)
		first := make([]int, len(b.Poles))
		for pole := range first {
			first[pole] = slices.IndexFunc(run, func(b api.Batch) bool {
				cells := b.Poles[pole]
				return cells[len(cells)-1] >= b.Need
			})
			if first[pole] < 0 {
				first[pole] = never
			}
		}
		all = append(all, first)
	}
	return all
}

// never is more hours, and more days, than there are.
const never = 1 << 20

func modelTreated(first [][]int, hours int) []uint8 {
	known := make([]uint8, len(first[0]))
	for pole := range known {
		yes, no := true, true
		for _, at := range first {
			if at[pole] <= hours {
				no = false
			} else {
				yes = false
			}
		}
		switch {
		case yes:
			known[pole] = api.KnownYes
		case !no:
			known[pole] = api.KnownOpen
		}
	}
	return known
}

func modelReady(first [][]int) int {
	ready := 0
	for _, at := range first {
		ready = max(ready, slices.Max(at))
	}
	return ready
}

// modelDay is all amounts that may be there after a day, with what comes at its end.
func modelDay(amounts map[int]bool, parts api.Span, comes int) map[int]bool {
	next := map[int]bool{}
	for n := range amounts {
		for part := parts.Lo; part <= parts.Hi; part++ {
			next[n-n*part/1000+comes] = true
		}
	}
	return next
}

func ends(amounts map[int]bool) api.Span {
	s := span(never*never, -1)
	for n := range amounts {
		s = span(min(s.Lo, n), max(s.Hi, n))
	}
	return s
}

// modelDry is the first number of days, up to some day, after which no pole may be too wet.
func modelDry(d api.Drying, days int) int {
	wet := map[int]bool{}
	for n := d.Wet.Lo; n <= d.Wet.Hi; n++ {
		wet[n] = true
	}
	for day := range days + 1 {
		if ends(wet).Hi <= d.Most {
			return day
		}
		wet = modelDay(wet, d.Loss, 0)
	}
	return never
}

func modelLevels(p api.Pond, drains []int) (levels []api.Span, first int) {
	first = -1
	level := map[int]bool{0: true}
	for day, drain := range drains {
		level = modelDay(level, p.Out, drain)
		levels = append(levels, ends(level))
		if first < 0 && levels[day].Hi > p.Limit {
			first = day
		}
	}
	return levels, first
}

func chance(seed uint64) *rand.Rand { return rand.New(rand.NewPCG(seed, 4)) }

// among is a number of a span.
func among(r *rand.Rand, lo, hi int) int { return lo + r.IntN(hi-lo+1) }

// narrow is a span with at most so many numbers, within another one.
func narrow(r *rand.Rand, lo, hi, numbers int) api.Span {
	from := among(r, lo, hi)
	return span(from, min(hi, from+r.IntN(numbers)))
}

// anyBatch is a batch with a Spread of at most so many numbers. Some have much borax in the vat, some in the poles, and some a core that needs much.
func anyBatch(r *rand.Rand, spreads int) api.Batch {
	b := api.Batch{Spread: narrow(r, 1, 250, spreads)}
	b.Water = among(r, 10, []int{10, 30, 200, 10000}[r.IntN(4)])
	strength := []int{0, 20, 100, 1000, 10000}[r.IntN(5)]
	b.Borax = min(100000, among(r, 0, strength*b.Water))
	grams := []int{0, 10, 100, 1000}[r.IntN(4)]
	for range among(r, 1, 4) {
		cells := make([]int, among(r, 1, 6))
		for i := range cells {
			cells[i] = among(r, 0, grams) * r.IntN(2)
		}
		b.Poles = append(b.Poles, cells)
	}
	b.Need = among(r, 1, max(1, min(1000, max(strength, grams)/among(r, 1, 4))))
	return b
}

func anyDrying(r *rand.Rand, numbers int) api.Drying {
	d := api.Drying{Wet: narrow(r, 0, 1000, numbers), Loss: narrow(r, 0, []int{5, 40, 1000}[r.IntN(3)], numbers)}
	d.Most = among(r, 0, min(1000, d.Wet.Hi+10))
	return d
}

// anyPond is a pond with drains, some of which come to about its limit.
func anyPond(r *rand.Rand, numbers, days, drain int) (api.Pond, []int) {
	p := api.Pond{Out: narrow(r, 0, 1000, numbers), Limit: among(r, 0, min(1000000, 3*drain))}
	drains := make([]int, r.IntN(days+1))
	for day := range drains {
		drains[day] = among(r, 0, drain) * r.IntN(2)
	}
	return p, drains
}
