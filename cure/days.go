package cure

import (
	"slices"

	"canebrake/api"
)

// Why the ends of a span are enough: of more at least as much is left, if the same part is taken (of one more at most one more is taken); and of the same amount no more is left, if a greater part is taken. So the least amount comes from the least one of the day before and the greatest part, the greatest one from the greatest one and the least part.

// change tells what a day makes of the least, and of the greatest amount of the day before, by what is known of this day.
type change[D any] struct {
	least, greatest func(before int, day D) int
}

// dayByDay is between which amounts something is after each of some days.
func dayByDay[D any](first api.Span, days []D, by change[D]) []api.Span {
	spans := make([]api.Span, len(days))
	now := first
	for i, day := range days {
		now = api.Span{Lo: by.least(now.Lo, day), Hi: by.greatest(now.Hi, day)}
		spans[i] = now
	}
	return spans
}

// left is what is left of an amount when a part of it, told in thousandths, is taken.
func left(amount, part int) int { return amount - amount*part/api.Whole }

// wetness is how wet poles may be after each number of days, from 0 to MaxDry.
func wetness(d api.Drying) []api.Span {
	losses := slices.Repeat([]api.Span{d.Loss}, api.MaxDry)
	dried := dayByDay(d.Wet, losses, change[api.Span]{
		least:    func(wet int, loss api.Span) int { return left(wet, loss.Hi) },
		greatest: func(wet int, loss api.Span) int { return left(wet, loss.Lo) },
	})
	return append([]api.Span{d.Wet}, dried...)
}

// levelsOf is the span of the levels of each day.
func levelsOf(p api.Pond, drains []int) []api.Span {
	return dayByDay(api.Span{}, drains, change[int]{
		least:    func(level, drain int) int { return left(level, p.Out.Hi) + drain },
		greatest: func(level, drain int) int { return left(level, p.Out.Lo) + drain },
	})
}
