package weave

// floats are how many crossings the floats of a strip have, of those that are no part of a longer one. Along the strip each begins where the one before ends.
func floats(t strip) []int {
	var list []int
	var first, last bool
	for _, over := range t.crossings() {
		if len(list) == 0 {
			first = over
		}
		if len(list) == 0 || over != last {
			list = append(list, 0)
		}
		list[len(list)-1]++
		last = over
	}
	// Round the screen the last float goes on as the first one. If they are one and the same, it goes all the way round, and no crossing counts twice.
	if end := len(list) - 1; t.goesRound() && end > 0 && first == last {
		list[0] += list[end]
		list = list[:end]
	}
	return list
}

// bows is how many neighbours along a strip there are at one of which it passes over, and at the other one under: those where a float ends and the next one begins.
func bows(t strip) int {
	number := len(floats(t))
	if t.goesRound() && number > 1 {
		return number
	}
	return number - 1
}

// held tells whether a strip passes over at some crossing, and under at another one.
func held(t strip) bool { return len(floats(t)) > 1 }

// loose are the strips that are not held.
func (s screen) loose() []int {
	return those(s.strips(), func(t strip) bool { return !held(t) })
}

// float is how many crossings the longest float has.
func (s screen) float() int {
	var all []int
	for _, t := range s.strips() {
		all = append(all, floats(t)...)
	}
	return longest(all...)
}

func longest(floats ...int) int {
	most := 0
	for _, crossings := range floats {
		most = max(most, crossings)
	}
	return most
}
