package grade

import (
	"canebrake/api"
	"canebrake/clump"
	"canebrake/cure"
)

// origin is the clone and the years that are written on a pole. All poles with the same one share the culms that the book tells of.
type origin struct{ clone, cut, shot int }

func originOf(p api.Pole) origin { return origin{p.Clone, p.Cut, p.Shot} }

// traced is for each pole what the books of groves tell of its origin.
func traced(poles []api.Pole, groves []api.Grove) []uint8 {
	written := map[origin]int{}
	for _, p := range poles {
		written[originOf(p)]++
	}
	known := make([]uint8, len(poles))
	for i, p := range poles {
		from := originOf(p)
		switch culms := culmsOf(from, groves); {
		case culms == 0:
			known[i] = api.KnownNo
		case culms < written[from]:
			known[i] = api.KnownOpen
		default:
			known[i] = api.KnownYes
		}
	}
	return known
}

// culmsOf is how many culms of an origin were cut by the book of their grove, 0 if there is no such book, or no such year in it.
func culmsOf(from origin, groves []api.Grove) int {
	grove, ok := first(groves, func(g api.Grove) bool { return g.Id == from.clone })
	if !ok {
		return 0
	}
	takes, e := clump.Taken(grove, from.cut)
	if e != api.OK {
		return 0
	}
	take, _ := first(takes, func(t api.Take) bool { return t.Shot == from.shot })
	return take.Number
}

// soaked is for each pole what the books of vats tell of its core. Each batch is asked once, and only if there are poles of it, as its hours take long to go through.
func soaked(poles []api.Pole, soaks []api.Soak) []uint8 {
	treated := map[int][]uint8{}
	known := make([]uint8, len(poles))
	for i, p := range poles {
		if p.Soak >= len(soaks) {
			continue
		}
		if _, ok := treated[p.Soak]; !ok {
			soak := soaks[p.Soak]
			treated[p.Soak], _ = cure.Treated(soak.Batch, soak.Hours)
		}
		if cores := treated[p.Soak]; p.Place < len(cores) {
			known[i] = cores[p.Place]
		}
	}
	return known
}
