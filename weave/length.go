package weave

import (
	"maps"
	"slices"

	"canebrake/api"
)

// lengthOf is how long a strip is.
func lengthOf(t strip, g api.Gauge) int {
	length := bows(t) * g.Bow
	for range t.crossings() {
		length += g.Pitch
	}
	if t.goesRound() {
		length += g.Lap
	}
	return length
}

// lengths are how long all strips are.
func (s screen) lengths(g api.Gauge) []int {
	var lengths []int
	for _, t := range s.strips() {
		lengths = append(lengths, lengthOf(t, g))
	}
	return lengths
}

// bundles are the members for strips of such lengths, the shortest ones first.
func bundles(lengths []int, g api.Gauge) []api.Member {
	strips := map[int]int{}
	for _, length := range lengths {
		strips[length]++
	}
	var m []api.Member
	for _, length := range slices.Sorted(maps.Keys(strips)) {
		sticks := (strips[length] + g.Split - 1) / g.Split
		for range sticks {
			m = append(m, api.Member{Length: length, Grade: g.Grade, Buy: g.Buy})
		}
	}
	return m
}
