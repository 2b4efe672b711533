package grade

import (
	"slices"

	"canebrake/api"
	"canebrake/clump"
	"canebrake/cure"
)

// within tells whether all numbers are in a span.
func within(s api.Span, numbers ...int) bool {
	return !slices.ContainsFunc(numbers, func(n int) bool { return n < s.Lo || n > s.Hi })
}

// upTo is the span from 0 to a number, fromOne the one from 1.
func upTo(most int) api.Span    { return api.Span{Lo: 0, Hi: most} }
func fromOne(most int) api.Span { return api.Span{Lo: 1, Hi: most} }

// first is the first thing of a list of which something is so, and whether there is one.
func first[T any](list []T, so func(T) bool) (found T, ok bool) {
	i := slices.IndexFunc(list, so)
	if i < 0 {
		return found, false
	}
	return list[i], true
}

// byId tells whether a list has at most so many things, by Id, no two with the same one, and all of them are valid.
func byId[T any](list []T, most int, id func(T) int, valid func(T) bool) bool {
	if len(list) > most {
		return false
	}
	least := 0
	for _, x := range list {
		if !within(api.Span{Lo: least, Hi: api.MaxId}, id(x)) || !valid(x) {
			return false
		}
		least = id(x) + 1
	}
	return true
}

func validGrading(g api.Grading) bool {
	if !within(fromOne(api.MaxGrades), len(g.Grades)) || !within(upTo(api.MaxStress), g.Vary) {
		return false
	}
	before := api.Grade{Age: 0, Wall: 1}
	for _, next := range g.Grades {
		if !validGrade(next, before) {
			return false
		}
		before = next
	}
	return true
}

// validGrade tells whether a grade is valid after the one before it.
func validGrade(g, before api.Grade) bool {
	return within(api.Span{Lo: before.Age, Hi: api.MaxCulmAge}, g.Age) &&
		within(api.Span{Lo: before.Wall, Hi: api.MaxThick}, g.Wall) &&
		!slices.ContainsFunc(g.Stress[:], func(s api.Span) bool { return !validStress(s) })
}

func validStress(s api.Span) bool {
	return !empty(s) && within(fromOne(api.MaxStress), s.Lo, s.Hi)
}

func validSheet(s api.Sheet) bool {
	validTest := func(t api.Test) bool {
		_, ok := poleWith(s.Poles, t.Pole)
		return ok && validSection(t.Section) && within(fromOne(api.MaxForce), t.Force)
	}
	return byId(s.Poles, api.MaxPoles, func(p api.Pole) int { return p.Id }, validPole) &&
		byId(s.Tests, api.MaxTests, func(t api.Test) int { return t.Id }, validTest)
}

func validPole(p api.Pole) bool {
	return within(upTo(api.MaxId), p.Clone) &&
		within(upTo(api.MaxYear), p.Shot, p.Cut) && p.Shot <= p.Cut &&
		validSections(p) &&
		within(upTo(api.MaxSoaks-1), p.Soak) &&
		within(upTo(api.MaxBatch-1), p.Place)
}

func validSections(p api.Pole) bool {
	for section, wall := range p.Walls {
		girth := p.Girths[section]
		if !within(fromOne(api.MaxThick), wall) || !within(api.Span{Lo: api.MinGirth, Hi: api.MaxGirth}, girth) || 2*wall > girth {
			return false
		}
	}
	return true
}

func validSection(section int) bool { return within(upTo(api.Sections-1), section) }

func validGroves(groves []api.Grove) bool {
	return byId(groves, api.MaxGroves, func(g api.Grove) int { return g.Id }, func(g api.Grove) bool { return clump.Check(g) == api.OK })
}

func validSoaks(soaks []api.Soak) bool {
	return len(soaks) <= api.MaxSoaks && !slices.ContainsFunc(soaks, func(s api.Soak) bool { return !validSoak(s) })
}

func validSoak(s api.Soak) bool {
	return cure.Check(s.Batch) == api.OK && within(upTo(api.MaxSoak), s.Hours)
}
