package flute

import (
	"slices"

	"canebrake/api"
)

// room is where the next place may be after some places, in stretches, the one that is furthest from the mouth first: at least Gap below the last place, and Near or more from each node. The first place is the end of a flute, which may be near to a node.
func room(b api.Blank, places []int) []api.Span {
	if len(places) == 0 {
		return []api.Span{{Lo: api.MinLength, Hi: b.Length}}
	}
	var stretches []api.Span
	most := places[len(places)-1] - b.Gap
	for _, node := range slices.Backward(b.Nodes) {
		stretches = append(stretches, api.Span{Lo: max(node+b.Near, api.MinLength), Hi: most})
		most = min(node-b.Near, most)
	}
	return append(stretches, api.Span{Lo: api.MinLength, Hi: most})
}

func validPlaces(b api.Blank, places []int) bool {
	if !within(fromOne(api.MaxNotes), len(places)) {
		return false
	}
	for i, place := range places {
		if !slices.ContainsFunc(room(b, places[:i]), func(s api.Span) bool { return within(s, place) }) {
			return false
		}
	}
	return true
}

// made is the flute of places.
func made(b api.Blank, places []int) api.Flute {
	f := api.Flute{Length: places[0], End: b.End, Speed: b.Speed}
	for _, place := range slices.Backward(places[1:]) {
		f.Holes = append(f.Holes, api.Hole{At: place, Fix: b.Fix})
	}
	return f
}

// upToPlace is what sounds up to the next place after some places, which is the end of the flute if it is the first one. For its note all holes behind it are open, so that none of them has a cross.
func upToPlace(b api.Blank, places []int, next int) tube {
	if len(places) == 0 {
		return closedTube{next, b.End}
	}
	return openTube{hole: api.Hole{At: next, Fix: b.Fix}}
}

// Why it is enough to take the greatest place for one note after the other: the tone of a note depends on its own place alone, and the further this is from the mouth, the more room is left for the next ones. So other places have none that is greater, and where a note has no place after these, it has none after others.

// drilled are the greatest places for notes, if there are any.
func drilled(b api.Blank, notes []api.Span) (places []int, ok bool) {
notes:
	for _, note := range notes {
		tones := func(next int) api.Span { return upToPlace(b, places, next).air().tones(b.Speed) }
		notBelow := func(next int) bool { return tones(next).Lo >= note.Lo }
		for _, stretch := range room(b, places) {
			// Nearer to the mouth no tone is lower: if this one place is above the note for some truth, so is all of the stretch that is not below it.
			place, found := greatest(stretch.Lo, stretch.Hi, notBelow)
			if found && inside(note, tones(place)) {
				places = append(places, place)
				continue notes
			}
		}
		return nil, false
	}
	return places, true
}

// greatest is the greatest number of a span of which something is so, if there is one. It has to be so of each number of the span that is less than one of which it is so.
func greatest[N ~int](least, most N, so func(N) bool) (number N, ok bool) {
	number = least - 1
	for number < most {
		middle := most - (most-number)/2
		if so(middle) {
			number = middle
		} else {
			most = middle - 1
		}
	}
	return number, number >= least
}
