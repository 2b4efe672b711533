package clump

import "canebrake/api"

// within tells whether all numbers are in a span.
func within(s api.Span, numbers ...int) bool {
	for _, n := range numbers {
		if n < s.Lo || n > s.Hi {
			return false
		}
	}
	return true
}

// upTo is the span from 0 to a number.
func upTo(most int) api.Span { return api.Span{Lo: 0, Hi: most} }

func validSpan(s api.Span, most int) bool {
	return s.Lo <= s.Hi && within(upTo(most), s.Lo, s.Hi)
}

func validHabit(h api.Habit) bool {
	return validSpan(h.Rate, api.MaxRate) &&
		within(api.Span{Lo: 1, Hi: api.MaxCulmAge}, h.Dies) &&
		within(upTo(h.Dies), h.Bears) &&
		within(api.Span{Lo: 1, Hi: h.Dies}, h.Ripe) &&
		within(upTo(api.MaxStand), h.Keep)
}

// validBounds tells whether all numbers of a grove are within their limits.
func validBounds(g api.Grove) bool {
	if !validHabit(g.Habit) || !within(upTo(api.MaxId), g.Id) || !within(upTo(api.MaxYear), g.First) {
		return false
	}
	if len(g.Start) != g.Habit.Dies+1 || !within(upTo(api.MaxStart), g.Start...) {
		return false
	}
	if len(g.Seasons) > api.MaxBook || g.First+len(g.Seasons) > api.MaxYear {
		return false
	}
	for _, s := range g.Seasons {
		if !within(upTo(api.MaxShots), s.Shots, s.Cut) {
			return false
		}
	}
	return true
}

// validCuts tells whether no season cuts more culms than are ripe. It is only asked of a grove within its bounds.
func validCuts(g api.Grove) bool {
	for _, r := range records(g) {
		if r.Cut > r.ripe {
			return false
		}
	}
	return true
}

func validRains(rains []api.Span) bool {
	for _, rain := range rains {
		if !validSpan(rain, api.MaxRain) {
			return false
		}
	}
	return within(api.Span{Lo: 1, Hi: api.MaxPlan}, len(rains))
}

func validPlan(plan []int, years int) bool {
	return len(plan) == years && within(upTo(api.MaxShots), plan...)
}
