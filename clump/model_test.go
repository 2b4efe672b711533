package clump_test

import (
	"math/rand/v2"
	"slices"

	"canebrake/api"
)

// The model of these tests keeps each culm by itself, as the year in which it shot, and goes through every rate and every rain: it is slow, and shares nothing with the package.

type model struct {
	habit api.Habit
	year  int
	culms []int // the years in which they shot, the earliest first
}

func modelOf(g api.Grove) model {
	m := model{habit: g.Habit, year: g.First}
	for age, n := range slices.Backward(g.Start) {
		for range n {
			m.culms = append(m.culms, g.First-age)
		}
	}
	return m
}

func (m model) count(from, to int) int {
	n := 0
	for _, shot := range m.culms {
		if age := m.year - shot; age >= from && age <= to {
			n++
		}
	}
	return n
}

func (m model) ripe() int { return m.count(m.habit.Ripe, m.habit.Dies) }

// next is the model a year later, before the cut.
func (m model) next(shots int) model {
	l := model{habit: m.habit, year: m.year + 1}
	for _, shot := range m.culms {
		if l.year-shot <= m.habit.Dies {
			l.culms = append(l.culms, shot)
		}
	}
	for range shots {
		l.culms = append(l.culms, l.year)
	}
	return l
}

// cut takes culms from the front, where the oldest ones are: all ripe ones come before all others.
func (m model) cut(n int) (left model, taken []int) {
	return model{m.habit, m.year, slices.Clone(m.culms[n:])}, m.culms[:n]
}

func (m model) ages() []int {
	l := make([]int, m.habit.Dies+1)
	for _, shot := range m.culms {
		l[m.year-shot]++
	}
	return l
}

// shoots is each number of shoots that a rate and a rain bring, once.
func (m model) shoots(rain api.Span) []int {
	bears := m.count(0, m.habit.Bears)
	var l []int
	for rate := m.habit.Rate.Lo; rate <= m.habit.Rate.Hi; rate++ {
		for r := rain.Lo; r <= rain.Hi; r++ {
			l = append(l, bears*rate*r/1000000)
		}
	}
	slices.Sort(l)
	return slices.Compact(l)
}

// comes is all that may come of some states in a year, before the cut.
func comes(states []model, rain api.Span) []model {
	var l []model
	for _, m := range states {
		for _, n := range m.shoots(rain) {
			l = append(l, m.next(n))
		}
	}
	return distinct(l)
}

func distinct(l []model) []model {
	slices.SortFunc(l, func(a, b model) int { return slices.Compare(a.culms, b.culms) })
	return slices.CompactFunc(l, func(a, b model) bool { return slices.Equal(a.culms, b.culms) })
}

// afterCut is what is left of each state by a cut, and whether it is sure.
func afterCut(states []model, cut int) ([]model, bool) {
	var l []model
	for _, m := range states {
		if cut > m.ripe() {
			return nil, false
		}
		left, _ := m.cut(cut)
		if len(left.culms) < m.habit.Keep {
			return nil, false
		}
		l = append(l, left)
	}
	return distinct(l), true
}

// modelNow is the model at the end of a book.
func modelNow(g api.Grove) model {
	m := modelOf(g)
	for _, s := range g.Seasons {
		m, _ = m.next(s.Shots).cut(s.Cut)
	}
	return m
}

func spanOf(states []model, number func(model) int) api.Span {
	s := api.Span{Lo: number(states[0]), Hi: number(states[0])}
	for _, m := range states {
		s.Lo, s.Hi = min(s.Lo, number(m)), max(s.Hi, number(m))
	}
	return s
}

func modelLook(g api.Grove, rains []api.Span, plan []int) []api.Ahead {
	var ahead []api.Ahead
	states := []model{modelNow(g)}
	for i, rain := range rains {
		came := comes(states, rain)
		left, ok := afterCut(came, plan[i])
		if !ok {
			break
		}
		states = left
		ahead = append(ahead, api.Ahead{
			Shots: spanOf(came, func(m model) int { return m.count(0, 0) }),
			Stand: spanOf(left, func(m model) int { return len(m.culms) }),
		})
	}
	return ahead
}

// modelMost tries every plan.
func modelMost(g api.Grove, rains []api.Span) (plan []int, total int, ok bool) {
	var try func(states []model, done []int)
	try = func(states []model, done []int) {
		if len(done) == len(rains) {
			cut := 0
			for _, n := range done {
				cut += n
			}
			if !ok || cut > total {
				plan, total, ok = slices.Clone(done), cut, true
			}
			return
		}
		came := comes(states, rains[len(done)])
		for cut := range api.MaxShots + 1 {
			if left, sure := afterCut(came, cut); sure {
				try(left, append(slices.Clone(done), cut))
			}
		}
	}
	try([]model{modelNow(g)}, nil)
	return plan, total, ok
}

// chance is the same numbers in each run.
func chance(seed uint64) *rand.Rand { return rand.New(rand.NewPCG(seed, 17)) }

func upTo(r *rand.Rand, most int) int { return r.IntN(most + 1) }

// anyGrove is a valid grove whose book may have some seasons.
func anyGrove(r *rand.Rand, most, seasons int) api.Grove {
	rate := upTo(r, api.MaxRate-8)
	dies := 1 + r.IntN(api.MaxCulmAge)
	g := api.Grove{
		Id:    upTo(r, api.MaxId),
		Habit: api.Habit{Rate: span(rate, rate+upTo(r, 8)), Bears: upTo(r, dies), Ripe: 1 + r.IntN(dies), Dies: dies, Keep: upTo(r, most*dies)},
		First: upTo(r, 20),
	}
	for range dies + 1 {
		g.Start = append(g.Start, upTo(r, most))
	}
	m := modelOf(g)
	for range upTo(r, seasons) {
		s := api.Season{Shots: upTo(r, most)}
		m = m.next(s.Shots)
		s.Cut = upTo(r, min(m.ripe(), api.MaxShots))
		m, _ = m.cut(s.Cut)
		g.Seasons = append(g.Seasons, s)
	}
	return g
}

func anyRains(r *rand.Rand, years int) []api.Span {
	var l []api.Span
	for range 1 + r.IntN(years) {
		lo := upTo(r, api.MaxRain-200)
		l = append(l, span(lo, lo+upTo(r, 200)))
	}
	return l
}
