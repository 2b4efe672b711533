package flute

import (
	"slices"

	"canebrake/api"
)

// within tells whether all numbers are in a span.
func within(s api.Span, numbers ...int) bool {
	return !slices.ContainsFunc(numbers, func(n int) bool { return n < s.Lo || n > s.Hi })
}

// upTo is the span from 0 to a number, fromOne the one from 1.
func upTo(most int) api.Span    { return api.Span{Lo: 0, Hi: most} }
func fromOne(most int) api.Span { return api.Span{Lo: 1, Hi: most} }

// validSpan tells whether a span is one, and lies in another one.
func validSpan(s, outer api.Span) bool { return s.Lo <= s.Hi && within(outer, s.Lo, s.Hi) }

func validLength(length int) bool {
	return within(api.Span{Lo: api.MinLength, Hi: api.MaxLength}, length)
}

func validFix(s api.Span) bool { return validSpan(s, upTo(api.MaxFix)) }

func validSpeed(s api.Span) bool {
	return validSpan(s, api.Span{Lo: api.MinSpeed, Hi: api.MaxSpeed})
}

func validFlute(f api.Flute) bool {
	return validLength(f.Length) && validFix(f.End) && validFix(f.Cross) && validSpeed(f.Speed) &&
		len(f.Holes) <= api.MaxHoles && validHoles(f)
}

func validHoles(f api.Flute) bool {
	least := api.MinLength
	for _, h := range f.Holes {
		if !within(api.Span{Lo: least, Hi: f.Length - 1}, h.At) || !validFix(h.Fix) {
			return false
		}
		least = h.At + 1
	}
	return true
}

func validBlank(b api.Blank) bool {
	return validLength(b.Length) && validFix(b.End) && validFix(b.Fix) && validSpeed(b.Speed) &&
		within(fromOne(api.MaxLength), b.Gap) && within(upTo(api.MaxLength), b.Near) &&
		len(b.Nodes) <= api.MaxNodes && validNodes(b)
}

func validNodes(b api.Blank) bool {
	least := 0
	for _, node := range b.Nodes {
		if !within(api.Span{Lo: least, Hi: b.Length}, node) {
			return false
		}
		least = node + 1
	}
	return true
}

func validNote(note api.Span) bool { return validSpan(note, fromOne(api.MaxTone)) }

func validNotes(notes []api.Span) bool {
	return within(fromOne(api.MaxNotes), len(notes)) && !slices.ContainsFunc(notes, func(note api.Span) bool { return !validNote(note) })
}
