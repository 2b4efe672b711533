package book

import (
	"slices"

	"canebrake/api"
	"canebrake/frame"
	"canebrake/grade"
)

// within tells whether all numbers are in a span.
func within(s api.Span, numbers ...int) bool {
	return !slices.ContainsFunc(numbers, func(n int) bool { return n < s.Lo || n > s.Hi })
}

// upTo is the span from 0 to a number, fromOne the one from 1.
func upTo(most int) api.Span    { return api.Span{Lo: 0, Hi: most} }
func fromOne(most int) api.Span { return api.Span{Lo: 1, Hi: most} }

// validValley looks at the log first: the books take longer.
func validValley(v api.Valley) bool {
	return validLog(v.Log) && frame.Check(v.Frame) == api.OK && validSheet(v) && validProps(v)
}

// validSheet tells whether all poles of a valley are traced, and no tests contradict each other. It is only asked of a valley with a valid frame.
func validSheet(v api.Valley) bool {
	s, g := v.Frame.Sheet, v.Frame.Grading
	traces, e := grade.Trace(s, g, v.Groves)
	if e != api.OK || !sure(traces) {
		return false
	}
	clash, e := grade.Clash(s, g)
	return e == api.OK && len(clash) == 0
}

// validProps tells whether all props are of fit poles whose strength is known, and a scaffold that is open stands. It is only asked of a valley with a valid frame.
func validProps(v api.Valley) bool {
	inUse := slices.DeleteFunc(slices.Clone(v.Frame.Sheet.Poles), func(p api.Pole) bool { return !used(v, p.Id) })
	fits, e := fit(v, inUse...)
	if e != api.OK || !sure(fits) {
		return false
	}
	stands, e := frame.Stands(v.Frame, nil)
	return e == api.OK && (stands == api.KnownYes || !v.Open)
}

// sure tells whether all that is known is KnownYes.
func sure(known []uint8) bool {
	return !slices.ContainsFunc(known, func(k uint8) bool { return k != api.KnownYes })
}

func validLog(log []api.Entry) bool {
	return len(log) <= api.MaxEntries && !slices.ContainsFunc(log, func(x api.Entry) bool { return !validEntry(x) })
}

// validEntry tells whether an entry is a command, with numbers that may be said.
func validEntry(x api.Entry) bool {
	_, ok := commandOf(x)
	return ok && sayable(x.Args...)
}

// sayable tells whether numbers are such as a command may have.
func sayable(numbers ...int) bool {
	return within(api.Span{Lo: -api.MaxSaid, Hi: api.MaxSaid}, numbers...)
}
