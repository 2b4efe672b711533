package pool

import (
	"cmp"
	"iter"
	"maps"
	"slices"

	"canebrake/api"
	"canebrake/grade"
)

// coop is a cooperative at work, with the deliveries of poles of a sheet, and what these are graded by.
type coop struct {
	api.Coop
	sheet      api.Sheet
	grading    api.Grading
	deliveries []api.Delivery
}

func (c coop) value(d api.Delivery) int {
	n, _ := grade.Grade(c.sheet, c.grading, d.Pole)
	return c.Prices[n]
}

// of yields the deliveries of a family.
func (c coop) of(family int) iter.Seq[api.Delivery] {
	return func(yield func(api.Delivery) bool) {
		for _, d := range c.deliveries {
			if d.Family == family && !yield(d) {
				return
			}
		}
	}
}

// dues are by Families what was delivered, and what was paid in advance. They have no shares yet.
func (c coop) dues() []api.Due {
	due := map[int]api.Due{}
	rest := len(c.deliveries)
families:
	for family := range api.MaxFamily + 1 {
		for d := range c.of(family) {
			value, before := c.value(d), due[family]
			due[family] = api.Due{
				Family:  family,
				Value:   before.Value + value,
				Advance: before.Advance + value*c.Rate/api.Whole,
			}
			rest--
			if rest == 0 {
				break families
			}
		}
	}
	var dues []api.Due
	for _, family := range slices.Sorted(maps.Keys(due)) {
		dues = append(dues, due[family])
	}
	return dues
}

// worth is the value of all that was delivered.
func worth(dues []api.Due) int {
	value := 0
	for _, d := range dues {
		value += d.Value
	}
	return value
}

// share gives each family its part of the proceeds. All remainders together are as many times the worth as coins are left, and each one is less than it: so fewer coins are left than there are families with a remainder.
func share(dues []api.Due, proceeds int) {
	all, coins := worth(dues), proceeds
	remainders := make([]int, len(dues))
	for i := range dues {
		d := &dues[i]
		d.Share, remainders[i] = proceeds*d.Value/all, proceeds*d.Value%all
		coins -= d.Share
	}
	for _, i := range greatestFirst(remainders...)[:coins] {
		dues[i].Share++
	}
	for i := range dues {
		dues[i].Left = dues[i].Share - dues[i].Advance
	}
}

// greatestFirst is the indices of numbers, those of the greatest ones first, of equal ones the lesser index.
func greatestFirst[N cmp.Ordered](numbers ...N) []int {
	indices := make([]int, len(numbers))
	for i := range indices {
		indices[i] = i
	}
	slices.SortStableFunc(indices, func(a, b int) int { return cmp.Compare(numbers[b], numbers[a]) })
	return indices
}
