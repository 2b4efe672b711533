package weave

import "canebrake/api"

// set is some of the strips, by their numbers.
type set [2 * api.MaxStrips]bool

// Why it is enough to lift single strips: strips that lift off have, with each of them, all that lies over it, so they have all that is lifted with it. The fewest are therefore just what is lifted with any one of them, and two lists of the fewest have no strip in common, or they would be the same. So the first one of these lists is that which is found first, as it has the least number.

// falls are the fewest strips that lift off.
func (s screen) falls() []int {
	strips := s.strips()
	var all set
	for n := range strips {
		all[n] = true
	}
	fewest, size := all, len(strips)
lists:
	for n := range len(strips) {
		list, number := lifted(strips, n), 0
		for _, up := range list {
			if up {
				number++
			}
			if number == size {
				continue lists
			}
		}
		fewest, size = list, number
	}
	if fewest == all {
		return nil
	}
	return those(fewest[:], func(up bool) bool { return up })
}

// lifted are the strips that are lifted with one: what lies over it, what lies over that, and so on.
func lifted(strips []strip, with int) set {
	var up set
	var lift func(n int)
	lift = func(n int) {
		up[n] = true
		for other, over := range strips[n].crossings() {
			if !over && !up[other] {
				lift(other)
			}
		}
	}
	lift(with)
	return up
}
