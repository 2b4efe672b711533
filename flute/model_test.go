package flute_test

import (
	"maps"
	"math/rand/v2"
	"slices"

	"canebrake/api"
)

// The model of these tests goes through all that may be true, and through all lists of places: it is slow, and shares nothing with the package.

// set is some numbers.
type set map[int]bool

func (s set) ends() api.Span {
	all := slices.Collect(maps.Keys(s))
	return span(slices.Min(all), slices.Max(all))
}

// plus are all sums of one of the numbers, and one of a span.
func (s set) plus(other api.Span) set {
	sums := set{}
	for n := range s {
		for m := other.Lo; m <= other.Hi; m++ {
			sums[n+m] = true
		}
	}
	return sums
}

// isOpen tells whether a fingering leaves a hole open, which is counted from 0 on.
func isOpen(fingering uint8, hole int) bool {
	for range hole {
		fingering /= 2
	}
	return fingering%2 == 1
}

// modelAir are all lengths that the air may have with a fingering.
func modelAir(f api.Flute, fingering uint8) set {
	for i, h := range f.Holes {
		if !isOpen(fingering, i) {
			continue
		}
		air := set{h.At: true}.plus(h.Fix)
		for k := i + 1; k < len(f.Holes) && !isOpen(fingering, k); k++ {
			air = air.plus(f.Cross)
		}
		return air
	}
	return set{f.Length: true}.plus(f.End)
}

// modelTones are all tones that may be true with a fingering.
func modelTones(f api.Flute, fingering uint8) set {
	tones := set{}
	for length := range modelAir(f, fingering) {
		for speed := f.Speed.Lo; speed <= f.Speed.Hi; speed++ {
			tones[500*speed/length] = true
		}
	}
	return tones
}

// modelPlays is what is known of a note with such tones.
func modelPlays(tones set, note api.Span) uint8 {
	in, out := false, false
	for tone := range tones {
		if note.Lo <= tone && tone <= note.Hi {
			in = true
		} else {
			out = true
		}
	}
	switch {
	case !out:
		return api.KnownYes
	case !in:
		return api.KnownNo
	}
	return api.KnownOpen
}

// modelPlaces tells whether some numbers are places.
func modelPlaces(b api.Blank, places []int) bool {
	for i, place := range places {
		if place < 50 || place > b.Length || i > 0 && place > places[i-1]-b.Gap || i > 0 && modelNear(b, place) {
			return false
		}
	}
	return len(places) >= 1 && len(places) <= 9
}

// modelNear tells whether a place is nearer to a node than it may be.
func modelNear(b api.Blank, place int) bool {
	return slices.ContainsFunc(b.Nodes, func(node int) bool { return place-node < b.Near && node-place < b.Near })
}

// modelMake is the flute of places.
func modelMake(b api.Blank, places []int) api.Flute {
	f := api.Flute{Length: places[0], End: b.End, Speed: b.Speed}
	for i := len(places) - 1; i > 0; i-- {
		f.Holes = append(f.Holes, api.Hole{At: places[i], Fix: b.Fix})
	}
	return f
}

// lastOpen is the fingering of so many holes of which some are open, the last ones.
func lastOpen(holes, open int) uint8 {
	fingering, bit := 0, 1
	for i := range holes {
		if i >= holes-open {
			fingering += bit
		}
		bit *= 2
	}
	return uint8(fingering)
}

// allDrills are all places whose flute plays the notes whatever is true, in a short blank.
func allDrills(b api.Blank, notes []api.Span) [][]int {
	var drills [][]int
	var look func(places []int)
	look = func(places []int) {
		if len(places) == len(notes) {
			if modelPlaces(b, places) && playsAll(modelMake(b, places), notes) {
				drills = append(drills, slices.Clone(places))
			}
			return
		}
		most := b.Length
		if len(places) > 0 {
			most = places[len(places)-1] - 1
		}
		for place := 50; place <= most; place++ {
			look(append(places, place))
		}
	}
	look(nil)
	return drills
}

// playsAll tells whether a flute plays each note whatever is true, with one hole more open for each of them.
func playsAll(f api.Flute, notes []api.Span) bool {
	for open, note := range notes {
		if modelPlays(modelTones(f, lastOpen(len(f.Holes), open)), note) != api.KnownYes {
			return false
		}
	}
	return true
}

// greatestOf has of some lists the greatest number at each index. It is nil of none.
func greatestOf(lists [][]int) []int {
	var most []int
	for _, list := range lists {
		if most == nil {
			most = slices.Clone(list)
		}
		for i, n := range list {
			most[i] = max(most[i], n)
		}
	}
	return most
}

// wideDrill has the greatest place of each note that is in any places for all notes, also in a long blank: for each note it tells at which places it is played, which of these come after places of all notes before, and which before places of all notes behind. It is nil if there are no places.
func wideDrill(b api.Blank, notes []api.Span) []int {
	after, before := make([][]bool, len(notes)), make([][]bool, len(notes))
	for i := range notes {
		after[i] = make([]bool, b.Length+1)
		some := i == 0
		for place := b.Length; place >= 50; place-- {
			some = some || place+b.Gap <= b.Length && after[i-1][place+b.Gap]
			after[i][place] = some && fits(b, notes, i, place)
		}
	}
	for i := len(notes) - 1; i >= 0; i-- {
		before[i] = make([]bool, b.Length+1)
		some := i == len(notes)-1
		for place := 50; place <= b.Length; place++ {
			some = some || place-b.Gap >= 50 && before[i+1][place-b.Gap]
			before[i][place] = some && fits(b, notes, i, place)
		}
	}
	var most []int
	for i := range notes {
		for place := b.Length; place >= 50 && len(most) == i; place-- {
			if after[i][place] && before[i][place] {
				most = append(most, place)
			}
		}
	}
	return most
}

// fits tells whether a place may be that of a note, whatever the others are.
func fits(b api.Blank, notes []api.Span, i, place int) bool {
	longer := b.Fix
	if i == 0 {
		longer = b.End
	}
	return (i == 0 || !modelNear(b, place)) && b.Speed.Lo*500/(place+longer.Hi) >= notes[i].Lo && b.Speed.Hi*500/(place+longer.Lo) <= notes[i].Hi
}

// chance draws the same numbers each time.
func chance(seed uint64) *rand.Rand { return rand.New(rand.NewPCG(seed, 9)) }

// among is a number from lo to hi.
func among(r *rand.Rand, lo, hi int) int { return lo + r.IntN(hi-lo+1) }

// anySpan lies in another one, and goes over at most so many numbers. Now and then it begins, or ends, where the other one does.
func anySpan(r *rand.Rand, in api.Span, numbers int) api.Span {
	width := r.IntN(min(numbers, in.Hi-in.Lo+1))
	lo := among(r, in.Lo, in.Hi-width)
	switch r.IntN(6) {
	case 0:
		lo = in.Lo
	case 1:
		lo = in.Hi - width
	}
	return span(lo, lo+width)
}

// some are up to so many different numbers from lo to hi, in increasing order.
func some(r *rand.Rand, most, lo, hi int) []int {
	var l []int
	for range min(r.IntN(most+1), hi-lo+1) {
		l = append(l, among(r, lo, hi))
	}
	slices.Sort(l)
	return slices.Compact(l)
}

// sizes are how long flutes and blanks may be, and how wide their spans.
type sizes struct{ length, fix, speed int }

func small() sizes { return sizes{75, 4, 30} }
func large() sizes { return sizes{20000, 61, 400001} }

// anyLength is from 50 to a most one, which may be short.
func anyLength(r *rand.Rand, most int) int {
	return among(r, 50, []int{min(120, most), min(1000, most), most}[r.IntN(3)])
}

func anyFlute(r *rand.Rand, z sizes) api.Flute {
	f := api.Flute{Length: anyLength(r, z.length), End: anySpan(r, span(0, 60), z.fix), Cross: anySpan(r, span(0, 60), z.fix), Speed: anySpan(r, span(100000, 500000), z.speed)}
	for _, at := range some(r, 8, 50, f.Length-1) {
		f.Holes = append(f.Holes, api.Hole{At: at, Fix: anySpan(r, span(0, 60), z.fix)})
	}
	return f
}

// anyFingering is one of a flute.
func anyFingering(r *rand.Rand, f api.Flute) uint8 {
	most := 1
	for range f.Holes {
		most *= 2
	}
	return uint8(r.IntN(most))
}

// anyTone is a tone that may be true, told by one number of each span.
func anyTone(r *rand.Rand, f api.Flute, fingering uint8) int {
	length := f.Length + among(r, f.End.Lo, f.End.Hi)
	for i, h := range f.Holes {
		if isOpen(fingering, i) {
			length = h.At + among(r, h.Fix.Lo, h.Fix.Hi)
			for k := i + 1; k < len(f.Holes) && !isOpen(fingering, k); k++ {
				length += among(r, f.Cross.Lo, f.Cross.Hi)
			}
			break
		}
	}
	return 500 * among(r, f.Speed.Lo, f.Speed.Hi) / length
}

// noteNear begins and ends near to numbers of a span, at its ends, or far away.
func noteNear(r *rand.Rand, s api.Span) api.Span {
	end := func(n int) int {
		switch r.IntN(4) {
		case 0:
			n = among(r, s.Lo, s.Hi)
		case 1:
			n += among(r, -3, 3)
		case 2:
			n = among(r, 1, 10000000)
		}
		return min(max(n, 1), 10000000)
	}
	a, b := end(s.Lo), end(s.Hi)
	return span(min(a, b), max(a, b))
}

func anyBlank(r *rand.Rand, z sizes) api.Blank {
	b := api.Blank{Length: anyLength(r, z.length), End: anySpan(r, span(0, 60), z.fix), Fix: anySpan(r, span(0, 60), z.fix), Speed: anySpan(r, span(100000, 500000), z.speed)}
	b.Gap, b.Near = among(r, 1, max(1, b.Length/12)), r.IntN(max(1, b.Length/30))
	switch r.IntN(12) {
	case 0:
		b.Gap = 1
	case 1:
		b.Gap = among(r, 1, 20000)
	case 2:
		b.Near = among(r, 0, 20000)
	case 3:
		b.Near = 0
	}
	b.Nodes = some(r, 10, 0, b.Length)
	return b
}

// anyPlaces are mostly places of a blank, up to so many.
func anyPlaces(r *rand.Rand, b api.Blank, most int) []int {
	places := []int{among(r, 50, b.Length)}
	if r.IntN(2) == 0 {
		places[0] = b.Length
	}
	for range r.IntN(most) {
		last := places[len(places)-1]
		next := last - b.Gap - r.IntN(max(1, last/8))
		for next >= 50 && modelNear(b, next) && r.IntN(40) > 0 {
			next--
		}
		if next < 50 && r.IntN(10) > 0 {
			break
		}
		places = append(places, next)
	}
	return places
}

// notesFor are notes that some places play: each goes from a tone of the place, or of one near to it, to another one. Now and then a note is narrower, so that there may be no place for it.
func notesFor(r *rand.Rand, b api.Blank, most int) []api.Span {
	var notes []api.Span
	wide := []int{3, 20, max(3, b.Length/8)}[r.IntN(3)]
	for i, place := range anyPlaces(r, b, most) {
		longer := b.Fix
		if i == 0 {
			longer = b.End
		}
		place = max(place, 50)
		low := 500 * b.Speed.Lo / (place + longer.Hi + r.IntN(wide))
		high := 500 * b.Speed.Hi / max(place+longer.Lo-r.IntN(wide), 30)
		if r.IntN(12) == 0 {
			low += (high - low) * among(r, 1, 2) / 2
		}
		notes = append(notes, span(min(low, high), high))
	}
	return notes
}
