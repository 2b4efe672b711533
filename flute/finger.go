package flute

import (
	"iter"
	"math/bits"
	"slices"

	"canebrake/api"
)

// fingerings yields all fingerings of a flute, in ascending order.
func fingerings(f api.Flute) iter.Seq[uint8] {
	return func(yield func(uint8) bool) {
		for fingering := range 1 << len(f.Holes) {
			if !yield(uint8(fingering)) {
				return
			}
		}
	}
}

// sounding is what sounds with a fingering.
func sounding(f api.Flute, fingering uint8) tube {
	if fingering == 0 {
		return closedTube{f.Length, f.End}
	}
	first := bits.TrailingZeros8(fingering)
	behind := len(f.Holes) - first - 1
	closed := min(bits.TrailingZeros8(fingering>>(first+1)), behind)
	return openTube{f.Holes[first], slices.Repeat([]api.Span{f.Cross}, closed)}
}

// allTones are the tones of all fingerings.
func allTones(f api.Flute) map[uint8]api.Span {
	tones := map[uint8]api.Span{}
	for fingering := range fingerings(f) {
		tones[fingering] = sounding(f, fingering).air().tones(f.Speed)
	}
	return tones
}

// playing are the fingerings with which a note is played whatever is true.
func playing(f api.Flute, note api.Span) []uint8 {
	var sure []uint8
	tones := allTones(f)
	for fingering := range fingerings(f) {
		if inside(note, tones[fingering]) {
			sure = append(sure, fingering)
		}
	}
	return sure
}
