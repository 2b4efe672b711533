package stock

import (
	"slices"

	"canebrake/api"
)

// within tells whether all numbers are in a span.
func within(s api.Span, numbers ...int) bool {
	return !slices.ContainsFunc(numbers, func(n int) bool { return n < s.Lo || n > s.Hi })
}

// upTo is the span from 0 to a number, fromOne the one from 1.
func upTo(most int) api.Span    { return api.Span{Lo: 0, Hi: most} }
func fromOne(most int) api.Span { return api.Span{Lo: 1, Hi: most} }

// all tells whether a list has at most so many things, and something is so of each of them.
func all[T any](list []T, most int, so func(T) bool) bool {
	return len(list) <= most && !slices.ContainsFunc(list, func(x T) bool { return !so(x) })
}

func validTrunks(l []api.Trunk) bool { return all(l, api.MaxTrunks, validTrunk) }

func validTrunk(t api.Trunk) bool {
	inside := func(bend int) bool { return within(fromOne(t.Length-1), bend) }
	return validPiece(t.Length, t.Grade) && all(t.Bends, api.MaxBends, inside) && increasing(t.Bends)
}

// validPiece tells whether a trunk or a stick may be as long, and of such a grade.
func validPiece(length, grade int) bool {
	return within(api.Span{Lo: api.MinStick, Hi: api.MaxLength}, length) && within(upTo(api.MaxGrades), grade)
}

// increasing tells whether each number is greater than the one before it.
func increasing(numbers []int) bool {
	for i := range numbers {
		if i > 0 && numbers[i] <= numbers[i-1] {
			return false
		}
	}
	return true
}

func validSticks(l []api.Stick) bool { return all(l, api.MaxSticks, validStick) }

func validStick(s api.Stick) bool {
	return within(upTo(api.MaxTrunks-1), s.Trunk) && validPiece(s.Length, s.Grade)
}

func validMembers(l []api.Member) bool { return all(l, api.MaxMembers, validMember) }

func validMember(m api.Member) bool {
	return within(fromOne(api.MaxLength), m.Length) && within(upTo(api.MaxGrades), m.Grade) && within(upTo(api.MaxBuy), m.Buy)
}

// validPrices tells whether they are prices for so many sticks.
func validPrices(prices []int, sticks int) bool {
	valid := func(price int) bool { return within(upTo(api.MaxBuy), price) }
	return len(prices) == sticks && all(prices, api.MaxSticks, valid)
}
