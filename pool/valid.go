package pool

import (
	"slices"

	"canebrake/api"
)

func within(s api.Span, n int) bool { return s.Lo <= n && n <= s.Hi }

// upTo is the span from 0 to a number, fromOne the one from 1.
func upTo(most int) api.Span    { return api.Span{Lo: 0, Hi: most} }
func fromOne(most int) api.Span { return api.Span{Lo: 1, Hi: most} }

// ascending tells whether a list has at most so many things, by numbers from 0 to MaxId, no two with the same one, and all of them are valid.
func ascending[T any](list []T, most int, number func(T) int, valid func(T) bool) bool {
	if len(list) > most {
		return false
	}
	least := 0
	for _, x := range list {
		if !within(api.Span{Lo: least, Hi: api.MaxId}, number(x)) || !valid(x) {
			return false
		}
		least = number(x) + 1
	}
	return true
}

func validCoop(c api.Coop) bool {
	validHolder := func(h api.Holder) bool { return within(upTo(api.MaxFamily), h.Family) }
	return ascending(c.Holders, api.MaxHolders, func(h api.Holder) int { return h.Clone }, validHolder) &&
		validPrices(c.Prices) && within(upTo(api.Whole), c.Rate)
}

func validPrices(prices [api.MaxGrades + 1]int) bool {
	least := 0
	for _, price := range prices {
		if !within(api.Span{Lo: least, Hi: api.MaxPrice}, price) {
			return false
		}
		least = price
	}
	return true
}

func validDeliveries(c api.Coop, s api.Sheet, l []api.Delivery) bool {
	validDelivery := func(d api.Delivery) bool {
		at := poleAt(s.Poles, d.Pole)
		if at < 0 {
			return false
		}
		holder := api.Holder{Family: d.Family, Clone: s.Poles[at].Clone}
		return slices.Contains(c.Holders, holder) && firstOfPole(l, d.Pole) == d
	}
	return ascending(l, api.MaxPoles, func(d api.Delivery) int { return d.Id }, validDelivery)
}

// firstOfPole is the first delivery of a pole. A second one is not valid, as it is another one than this.
func firstOfPole(l []api.Delivery, pole int) api.Delivery {
	return l[slices.IndexFunc(l, func(d api.Delivery) bool { return d.Pole == pole })]
}

// poleAt is the index of the pole with an Id, -1 if there is none.
func poleAt(poles []api.Pole, id int) int {
	return slices.IndexFunc(poles, func(p api.Pole) bool { return p.Id == id })
}

func validPapers(s api.Sheet, papers []api.Paper) bool {
	validPaper := func(p api.Paper) bool {
		return poleAt(s.Poles, p.Pole) >= 0 &&
			within(api.Span{Lo: api.PaperTreated, Hi: api.PaperBears}, int(p.Kind)) &&
			within(kinds()[p.Kind].numbers, p.N)
	}
	return ascending(papers, api.MaxPapers, func(p api.Paper) int { return p.Id }, validPaper)
}
