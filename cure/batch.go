package cure

import (
	"iter"
	"slices"

	"canebrake/api"
)

// wall is the grams of the cells of a pole, from the outside to the core. The cells that a pole does not have stay empty.
type wall [api.MaxWall]int

// batch is a batch at work: Borax is what is in the vat by now, and walls are what is in the poles. Of Poles only the numbers of cells count, as they are the caller's.
type batch struct {
	api.Batch
	walls [api.MaxBatch]wall
}

func atWork(b api.Batch) batch {
	w := batch{Batch: b}
	for pole := range len(b.Poles) {
		copy(w.walls[pole][:], b.Poles[pole])
	}
	return w
}

func (b batch) core(pole int) int { return b.walls[pole][len(b.Poles[pole])-1] }

// cells is the grams of the cells of all poles, in lists of their own.
func (b batch) cells() [][]int {
	var poles [][]int
	for pole := range len(b.Poles) {
		poles = append(poles, slices.Clone(b.walls[pole][:len(b.Poles[pole])]))
	}
	return poles
}

// later is the batch an hour later.
func (b batch) later(spread int) batch {
	// Go rounds towards 0, so as much flows out as would flow in.
	flow := func(outer, inner int) int { return (outer - inner) * spread / api.Whole }
	next := b
	for pole := range len(b.Poles) {
		into := b.flows(pole, flow)
		next.Borax -= into[0]
		for cell := range api.MaxWall {
			next.walls[pole][cell] += into[cell] - into[cell+1]
		}
	}
	return next
}

// flows is what flows into each cell of a pole from the side of the vat, below 0 if it flows out there. Nothing flows on from the core.
func (b batch) flows(pole int, flow func(outer, inner int) int) [api.MaxWall + 1]int {
	var into [api.MaxWall + 1]int
	outer := b.Borax / b.Water
	for cell := range len(b.Poles[pole]) {
		inner := b.walls[pole][cell]
		into[cell] = flow(outer, inner)
		outer = inner
	}
	return into
}

// hours yields the batch after each number of hours at a spread, from 0 on. If an hour changes no wall, it does not change the vat either, since nothing is lost; then all hours to come are like it, and are left out.
func (b batch) hours(spread, last int) iter.Seq2[int, batch] {
	return func(yield func(int, batch) bool) {
		now := b
		for hour := range last + 1 {
			if !yield(hour, now) {
				return
			}
			next := now.later(spread)
			if next.walls == now.walls {
				return
			}
			now = next
		}
	}
}

// after is the batch after some hours at a spread.
func (b batch) after(spread, hours int) batch {
	end := b
	for _, now := range b.hours(spread, hours) {
		end = now
	}
	return end
}

// reached tells which poles have their cores reached within some hours at a spread, and after how many hours each of them has for the first time.
func (b batch) reached(spread, last int) map[int]int {
	when := map[int]int{}
hours:
	for hour, now := range b.hours(spread, last) {
		for pole := range len(b.Poles) {
			if _, ok := when[pole]; !ok && now.core(pole) >= b.Need {
				when[pole] = hour
			}
			if len(when) == len(b.Poles) {
				break hours
			}
		}
	}
	return when
}

// treated asks every spread: a core that is reached at two of them need not be at one between.
func (b batch) treated(hours int) []uint8 {
	var times [api.MaxBatch]int
	for spread := b.Spread.Lo; spread <= b.Spread.Hi; spread++ {
		for pole := range b.reached(spread, hours) {
			times[pole]++
		}
	}
	known := make([]uint8, len(b.Poles))
	for pole := range known {
		switch times[pole] {
		case 0:
			known[pole] = api.KnownNo
		case b.Spread.Hi - b.Spread.Lo + 1:
			known[pole] = api.KnownYes
		default:
			known[pole] = api.KnownOpen
		}
	}
	return known
}

// ready is the least number of hours after which all cores have been reached at every spread, if there is one.
func (b batch) ready() (hours int, ok bool) {
	for spread := b.Spread.Lo; spread <= b.Spread.Hi; spread++ {
		when := b.reached(spread, api.MaxSoak)
		if len(when) < len(b.Poles) {
			return 0, false
		}
		for _, hour := range when {
			hours = max(hours, hour)
		}
	}
	return hours, true
}
