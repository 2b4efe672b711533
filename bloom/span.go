package bloom

import (
	"cmp"
	"slices"

	"canebrake/api"
)

// one is the span of one number.
func one(n int) api.Span { return api.Span{Lo: n, Hi: n} }

// upTo is the span from 0 to a number.
func upTo(most int) api.Span { return api.Span{Lo: 0, Hi: most} }

// anyYear is all years in which a genet may flower.
func anyYear() api.Span { return upTo(api.MaxYear + api.MaxBloom) }

func empty(s api.Span) bool { return s.Lo > s.Hi }

// later is a span that begins and ends by some years later.
func later(s api.Span, years int) api.Span {
	return api.Span{Lo: s.Lo + years, Hi: s.Hi + years}
}

// cut is what a span has in common with all others. It is empty if there is no such number.
func cut(s api.Span, others ...api.Span) api.Span {
	for _, o := range others {
		s = api.Span{Lo: max(s.Lo, o.Lo), Hi: min(s.Hi, o.Hi)}
	}
	return s
}

// inside tells whether a span that is not empty lies in another one. No numbers are added here, as they may be of any size.
func inside(whole, s api.Span) bool {
	return !empty(s) && cut(s, whole) == s
}

// joined is the numbers of some spans, told by as few spans as there can be, in increasing order.
func joined(spans []api.Span) []api.Span {
	slices.SortFunc(spans, func(s, o api.Span) int { return cmp.Compare(s.Lo, o.Lo) })
	var whole []api.Span
	join := func(s api.Span) {
		last := len(whole) - 1
		if last >= 0 && s.Lo <= whole[last].Hi+1 {
			whole[last].Hi = max(whole[last].Hi, s.Hi)
			return
		}
		whole = append(whole, s)
	}
	for _, s := range spans {
		join(s)
	}
	return whole
}
