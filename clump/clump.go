// Package clump is layer 1: the book of a grove, what the next years bring, and how much may be cut in them (see shared/doc/01-clump.md).
package clump

import (
	"slices"

	"canebrake/api"
)

// Check returns ErrGrove unless a grove is valid.
func Check(g api.Grove) api.Errno {
	if !validBounds(g) || !validCuts(g) {
		return api.ErrGrove
	}
	return api.OK
}

// Stand returns how many culms of each age stood at the end of a year.
func Stand(g api.Grove, year int) ([]int, api.Errno) {
	r, e := recordOf(g, year)
	if e != api.OK {
		return nil, e
	}
	return slices.Clone(r.stand[:g.Habit.Dies+1]), api.OK
}

// Taken returns which culms were cut in a year, by the years in which they shot.
func Taken(g api.Grove, year int) ([]api.Take, api.Errno) {
	r, e := recordOf(g, year)
	if e != api.OK {
		return nil, e
	}
	var takes []api.Take
	for age, number := range slices.Backward(r.taken[:]) {
		if number > 0 {
			takes = append(takes, api.Take{Shot: year - age, Number: number})
		}
	}
	return takes, api.OK
}

// Look returns what the years of a plan bring, as long as they are sure.
func Look(g api.Grove, rains []api.Span, plan []int) (ahead []api.Ahead, sure int, e api.Errno) {
	if e := Check(g); e != api.OK {
		return nil, 0, e
	}
	if !validRains(rains) {
		return nil, 0, api.ErrRain
	}
	if !validPlan(plan, len(rains)) {
		return nil, 0, api.ErrPlan
	}
	ahead = look(atWork(g), rains, plan)
	return ahead, len(ahead), api.OK
}

// Most returns the sure plan by which the most culms are cut, and how many these are.
func Most(g api.Grove, rains []api.Span) (plan []int, total int, e api.Errno) {
	if e := Check(g); e != api.OK {
		return nil, 0, e
	}
	if !validRains(rains) {
		return nil, 0, api.ErrRain
	}
	best := mostOf(atWork(g), rains)
	if !best.sure {
		return nil, 0, api.ErrNone
	}
	return slices.Clone(best.plan[:len(rains)]), best.total, api.OK
}
