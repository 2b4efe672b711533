package flute

import "canebrake/api"

// tube is what sounds of a flute.
type tube interface {
	// air is how long the air in it is.
	air() air
}

// closedTube sounds up to its end, as no hole is open.
type closedTube struct {
	length int
	end    api.Span
}

func (t closedTube) air() air { return air{sum(one(t.length), t.end)} }

// openTube sounds up to its first open hole. Each closed hole behind this one, up to the next open one, has a cross.
type openTube struct {
	hole    api.Hole
	crosses []api.Span
}

func (t openTube) air() air { return air{sum(one(t.hole.At), t.hole.Fix, sum(t.crosses...))} }

// one is the span of one number.
func one(n int) api.Span { return api.Span{Lo: n, Hi: n} }

// sum is what a number of each span may be together.
func sum(spans ...api.Span) api.Span {
	var all api.Span
	for _, s := range spans {
		all.Lo += s.Lo
		all.Hi += s.Hi
	}
	return all
}

// air is how long the air is that sounds.
type air struct{ api.Span }

func tone(speed, length int) int { return 500 * speed / length }

// tones are the least and the greatest tone. Both come about, and none lies beyond them: with a greater speed no tone is lower, and with longer air none is higher.
func (a air) tones(speeds api.Span) api.Span {
	return api.Span{Lo: tone(speeds.Lo, a.Hi), Hi: tone(speeds.Hi, a.Lo)}
}

// meets tells whether any tone that may be true is in a note. It does not go by the least and the greatest one: as speeds and lengths are whole numbers, there are numbers between two tones that are none. So of each length the least tone that is not below the note is looked at.
func (a air) meets(note, speeds api.Span) bool {
	for length := a.Lo; length <= a.Hi; length++ {
		speed := max(speeds.Lo, (note.Lo*length+499)/500)
		if speed <= speeds.Hi && tone(speed, length) <= note.Hi {
			return true
		}
	}
	return false
}

// known is whether a note is played.
func (a air) known(note, speeds api.Span) uint8 {
	known := [...]uint8{api.KnownNo, api.KnownOpen, api.KnownYes}
	index := 0
	if a.meets(note, speeds) {
		index++
	}
	if inside(note, a.tones(speeds)) {
		index++
	}
	return known[index]
}

// inside tells whether a span lies in another one: then it is what both have in common.
func inside(outer, s api.Span) bool {
	return s == api.Span{Lo: max(s.Lo, outer.Lo), Hi: min(s.Hi, outer.Hi)}
}
