package book

import (
	"canebrake/api"
	"canebrake/clump"
)

// groveAt is the index of the grove with an Id, -1 if there is none: the Id is taken out of the map as the grove is seen, so that no other one counts.
func groveAt(groves []api.Grove, id int) int {
	unseen := map[int]bool{id: true}
	at := -1
	for i, g := range groves {
		if unseen[g.Id] {
			delete(unseen, g.Id)
			at = i
		}
	}
	return at
}

// culms is how many culms that shot in the year of a pole's Shot were cut in that of its Cut, by the book of its clone.
func culms(groves []api.Grove, p api.Pole) int {
	at := groveAt(groves, p.Clone)
	if at < 0 {
		return 0
	}
	takes, _ := clump.Taken(groves[at], p.Cut)
	for _, t := range takes {
		if t.Shot == p.Shot {
			return t.Number
		}
	}
	return 0
}

func sum(numbers []int) int {
	total := 0
	for _, n := range numbers {
		total += n
	}
	return total
}
