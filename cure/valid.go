package cure

import (
	"slices"

	"canebrake/api"
)

// within tells whether all numbers are in a span.
func within(s api.Span, numbers ...int) bool {
	return !slices.ContainsFunc(numbers, func(n int) bool { return n < s.Lo || n > s.Hi })
}

// upTo is the span from 0 to a number, fromOne the one from 1.
func upTo(most int) api.Span    { return api.Span{Lo: 0, Hi: most} }
func fromOne(most int) api.Span { return api.Span{Lo: 1, Hi: most} }

// validSpan tells whether a span is one, and lies in another one.
func validSpan(s, whole api.Span) bool {
	return s.Lo <= s.Hi && within(whole, s.Lo, s.Hi)
}

func validBatch(b api.Batch) bool {
	return within(api.Span{Lo: api.MinWater, Hi: api.MaxWater}, b.Water) &&
		within(upTo(api.MaxBorax), b.Borax) &&
		within(fromOne(api.MaxBatch), len(b.Poles)) &&
		!slices.ContainsFunc(b.Poles, func(cells []int) bool { return !validPole(cells) }) &&
		validSpan(b.Spread, fromOne(api.MaxSpread)) &&
		within(fromOne(api.MaxCell), b.Need)
}

func validPole(cells []int) bool {
	return within(fromOne(api.MaxWall), len(cells)) && within(upTo(api.MaxCell), cells...)
}

func validHours(hours int) bool { return within(upTo(api.MaxSoak), hours) }

func validDrying(d api.Drying) bool {
	return validSpan(d.Wet, upTo(api.Whole)) &&
		validSpan(d.Loss, upTo(api.Whole)) &&
		within(upTo(api.Whole), d.Most)
}

func validPond(p api.Pond) bool {
	return validSpan(p.Out, upTo(api.Whole)) && within(upTo(api.MaxPond), p.Limit)
}

func validDrains(drains []int) bool {
	return len(drains) <= api.MaxDrains && within(upTo(api.MaxBorax), drains...)
}
