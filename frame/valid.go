package frame

import (
	"slices"

	"canebrake/api"
)

// within tells whether all numbers are in a span.
func within(s api.Span, numbers ...int) bool {
	return !slices.ContainsFunc(numbers, func(n int) bool { return n < s.Lo || n > s.Hi })
}

// upTo is the span from 0 to a number, fromOne the one from 1.
func upTo(most int) api.Span    { return api.Span{Lo: 0, Hi: most} }
func fromOne(most int) api.Span { return api.Span{Lo: 1, Hi: most} }

func validFrame(f api.Frame) bool {
	return within(fromOne(api.MaxKnots), len(f.Knots)) && validForces(f.Knots) && validForces(f.Holds[:]) &&
		within(upTo(api.MaxProps), len(f.Props)) && validProps(f)
}

func validForces(forces []api.Span) bool {
	return !slices.ContainsFunc(forces, func(s api.Span) bool {
		return s.Lo > s.Hi || !within(upTo(api.MaxForce), s.Lo, s.Hi)
	})
}

func validProps(f api.Frame) bool {
	used := map[part]bool{}
	for _, p := range f.Props {
		if used[partOf(p)] || !hasPole(f.Sheet, p.Pole) || !validProp(p, len(f.Knots)) {
			return false
		}
		used[partOf(p)] = true
	}
	return true
}

// validProp tells whether a prop of one of so many knots is valid, whatever its pole is.
func validProp(p api.Prop, knots int) bool {
	return within(upTo(api.Sections-1), p.Section) &&
		within(upTo(knots-1), p.From) &&
		(p.To == api.Ground || within(api.Span{Lo: p.From + 1, Hi: knots - 1}, p.To)) &&
		within(fromOne(api.MaxShare), p.Share) &&
		jointAt(p.Joint) >= 0
}

// jointAt is the index of a kind of joint in Holds, below 0 if there is no such kind.
func jointAt(kind uint8) int {
	kinds := [...]uint8{api.JointLash, api.JointMortar, api.JointBolt}
	return slices.Index(kinds[:], kind)
}

func hasPole(s api.Sheet, id int) bool {
	return slices.ContainsFunc(s.Poles, func(p api.Pole) bool { return p.Id == id })
}

// validOut tells whether Ids are those of poles that are taken out.
func validOut(s api.Sheet, out []int) bool {
	for i, id := range out {
		if !hasPole(s, id) || i > 0 && id <= out[i-1] {
			return false
		}
	}
	return true
}
