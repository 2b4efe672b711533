package pool_test

import (
	"math"
	"slices"
	"testing"

	"canebrake/api"
	"canebrake/pool"
)

// around are numbers at the ends of a range, beyond them, and far away.
func around(least, most int) []int {
	return []int{
		least - 1, least, least + 1, most - 1, most, most + 1,
		math.MinInt, math.MinInt + 1, -1 << 32, -8, -1, 1 << 32, 1<<32 + least, 1<<62 + least, math.MaxInt/2 + 1, math.MaxInt - 1, math.MaxInt,
	}
}

// odd are numbers at the ends of ranges, and others far from them.
func odd() []int {
	return []int{math.MinInt, math.MinInt + 1, -1 << 32, -2, -1, 0, 1, 2, 3, 4, 5, 6, 7, 8, 9, 25, 40, 98, 99, 100, 999, 1000, 1001, 9998, 9999, 10000, 999999, 1000000, 1000001, 999999999, 1000000000, 1000000001, 1 << 32, math.MaxInt/2 + 1, math.MaxInt - 1, math.MaxInt}
}

// usualMarket is that of the chapter's second example.
func usualMarket() market {
	return market{both(), mixed(), grading(), delivered([2]int{4, 1}, [2]int{4, 2}, [2]int{6, 3}), 100}
}

// wantMarketErrors asks both functions with a cooperative whether all is valid. The proceeds are wrong, so that their error shows that others come first.
func wantMarketErrors(t *testing.T, m market, want api.Errno) {
	t.Helper()
	settled := want
	if want == api.OK {
		settled = api.ErrArg
	}
	m.proceeds = -1
	l, e := m.settle()
	if check := pool.Check(m.c, m.s, m.g, m.l); check != want || e != settled || len(l) > 0 {
		t.Error(m, "is", check, e, l, "not", want)
	}
}

// wantPaperErrors asks both functions with papers whether all is valid.
func wantPaperErrors(t *testing.T, b library, l []api.Paper, want api.Errno) {
	t.Helper()
	known, e := b.judge(l)
	ids, f := b.abroad(l)
	if e != want || f != want || want != api.OK && len(known)+len(ids) > 0 || want == api.OK && len(known) != len(l) {
		t.Error(b, l, "is", e, f, known, ids, "not", want)
	}
}

// orError is no error if all is valid, otherwise the one that is named.
func orError(valid bool, e api.Errno) api.Errno {
	if valid {
		return api.OK
	}
	return e
}

// TestMarketBounds sets each number of a cooperative, and of deliveries, to the ends of its range, and beyond (P10.1, R5).
func TestMarketBounds(t *testing.T) {
	wantMarketErrors(t, usualMarket(), api.OK)
	// Without deliveries there may be any holder.
	bare := func(m *market) { m.l = nil }
	for _, x := range []struct {
		name        string
		least, most int
		wrong       api.Errno
		set         func(m *market, n int)
	}{
		{"first family", 0, 99, api.ErrCoop, func(m *market, n int) { bare(m); m.c.Holders[0].Family = n }},
		{"last family", 0, 99, api.ErrCoop, func(m *market, n int) { bare(m); m.c.Holders[1].Family = n }},
		{"only family", 0, 99, api.ErrCoop, func(m *market, n int) { bare(m); m.c.Holders = []api.Holder{{Family: n, Clone: 7}} }},
		{"family of holder and deliveries", 0, 99, api.ErrCoop, func(m *market, n int) { m.c.Holders[0].Family, m.l[0].Family, m.l[1].Family = n, n, n }},
		{"first clone", 0, 7, api.ErrCoop, func(m *market, n int) { bare(m); m.c.Holders[0].Clone = n }},
		{"last clone", 8, 9999, api.ErrCoop, func(m *market, n int) { bare(m); m.c.Holders[1].Clone = n }},
		{"only clone", 0, 9999, api.ErrCoop, func(m *market, n int) { bare(m); m.c.Holders = []api.Holder{{Family: 4, Clone: n}} }},
		{"price of none", 0, 10, api.ErrCoop, func(m *market, n int) { m.c.Prices[0] = n }},
		{"price of 1", 0, 25, api.ErrCoop, func(m *market, n int) { m.c.Prices[1] = n }},
		{"price of 2", 10, 40, api.ErrCoop, func(m *market, n int) { m.c.Prices[2] = n }},
		{"price of 3", 25, 1000000, api.ErrCoop, func(m *market, n int) { m.c.Prices[3] = n }},
		{"all prices", 0, 1000000, api.ErrCoop, func(m *market, n int) { m.c.Prices = [4]int{n, n, n, n} }},
		{"rate", 0, 1000, api.ErrCoop, func(m *market, n int) { m.c.Rate = n }},
		{"first delivery", 0, 0, api.ErrDeliveries, func(m *market, n int) { m.l[0].Id = n }},
		{"second delivery", 5, 8, api.ErrDeliveries, func(m *market, n int) { m.l[0].Id, m.l[1].Id, m.l[2].Id = 4, n, 9 }},
		{"last delivery", 2, 9999, api.ErrDeliveries, func(m *market, n int) { m.l[2].Id = n }},
		{"only delivery", 0, 9999, api.ErrDeliveries, func(m *market, n int) { m.l = []api.Delivery{{Id: n, Family: 6, Pole: 3}} }},
		{"family of a delivery", 4, 4, api.ErrDeliveries, func(m *market, n int) { m.l[1].Family = n }},
		{"family of the last delivery", 6, 6, api.ErrDeliveries, func(m *market, n int) { m.l[2].Family = n }},
		{"pole of a delivery", 2, 2, api.ErrDeliveries, func(m *market, n int) { m.l[1].Pole = n }},
		{"pole of one delivery", 1, 2, api.ErrDeliveries, func(m *market, n int) { m.l = delivered([2]int{4, n}) }},
		{"clone of a pole", 8, 8, api.ErrDeliveries, func(m *market, n int) { m.s.Poles[2].Clone = min(max(n, 0), 9999) }},
	} {
		for _, n := range append(around(x.least, x.most), odd()...) {
			m := usualMarket()
			x.set(&m, n)
			wantMarketErrors(t, m, orError(x.least <= n && n <= x.most, x.wrong))
		}
		if t.Failed() {
			t.Fatal(x.name)
		}
	}
}

// TestMarketLists has lists of all lengths, and in any order (P10.1).
func TestMarketLists(t *testing.T) {
	for number := range 40 {
		m := usualMarket()
		m.c.Holders, m.l = nil, nil
		for i := range number {
			m.c.Holders = append(m.c.Holders, api.Holder{Family: i, Clone: i})
		}
		wantMarketErrors(t, m, orError(number <= 24, api.ErrCoop))
		if number > 1 {
			m.c.Holders = m.c.Holders[:min(number, 24)]
			last := len(m.c.Holders) - 1
			m.c.Holders[last].Clone = last - 1
			wantMarketErrors(t, m, api.ErrCoop)
			m.c.Holders[last].Family = last - 1
			wantMarketErrors(t, m, api.ErrCoop)
		}
		// As a sheet has 12 poles at most, a delivery more is one of a pole that was delivered, or is none.
		m = usualMarket()
		m.s, m.l = api.Sheet{}, nil
		for i := range number {
			if i < 12 {
				m.s.Poles = append(m.s.Poles, pole(i, 7, 102))
			}
			m.l = append(m.l, api.Delivery{Id: i, Family: 4, Pole: i})
		}
		wantMarketErrors(t, m, orError(number <= 12, api.ErrDeliveries))
	}
	for _, clones := range [][]int{{7, 7}, {8, 7}, {7, 8, 7}, {7, 9, 8}, {0, 0}, {9999, 9999}, {9999, 10000}, {-1, 7}} {
		m := usualMarket()
		m.c.Holders, m.l = nil, nil
		for i, n := range clones {
			m.c.Holders = append(m.c.Holders, api.Holder{Family: 4 + i%2, Clone: n})
		}
		wantMarketErrors(t, m, api.ErrCoop)
	}
	for _, l := range [][]api.Delivery{
		{{Id: 1, Family: 4, Pole: 1}, {Id: 1, Family: 4, Pole: 2}}, {{Id: 2, Family: 4, Pole: 1}, {Id: 1, Family: 4, Pole: 2}},
		{{Id: 1, Family: 4, Pole: 1}, {Id: 2, Family: 4, Pole: 2}, {Id: 1, Family: 6, Pole: 3}},
		// Of one pole: next to each other, or not, and of another family.
		{{Id: 1, Family: 4, Pole: 1}, {Id: 2, Family: 4, Pole: 1}}, {{Id: 1, Family: 4, Pole: 1}, {Id: 2, Family: 6, Pole: 3}, {Id: 3, Family: 4, Pole: 1}},
		{{Id: 1, Family: 4, Pole: 1}, {Id: 1, Family: 4, Pole: 1}}, {{Id: 1, Family: 4, Pole: 1}, {Id: 2, Family: 6, Pole: 1}},
		// Of the other family, of one that holds nothing, and of no pole.
		{{Id: 1, Family: 6, Pole: 1}}, {{Id: 1, Family: 4, Pole: 3}}, {{Id: 1, Family: 0, Pole: 1}}, {{Id: 1, Family: 4, Pole: 4}}, {{Id: 1, Family: 4, Pole: 0}}, {{}},
		make([]api.Delivery, 1<<16),
	} {
		m := usualMarket()
		m.l = l
		wantMarketErrors(t, m, api.ErrDeliveries)
	}
	m := usualMarket()
	m.c.Holders = make([]api.Holder, 1<<16)
	wantMarketErrors(t, m, api.ErrCoop)
	m = usualMarket()
	m.c.Holders = nil
	wantMarketErrors(t, m, api.ErrDeliveries)
	// Prices go down at any of them.
	for i := range 3 {
		m = usualMarket()
		m.c.Prices = [4]int{5, 5, 5, 5}
		wantMarketErrors(t, m, api.OK)
		m.c.Prices[i+1] = 4
		wantMarketErrors(t, m, api.ErrCoop)
	}
	// The families of two holders may be the same, and the later clone's may be the lesser one.
	m = usualMarket()
	m.c.Holders = append(m.c.Holders, api.Holder{Family: 4, Clone: 9}, api.Holder{Family: 0, Clone: 10})
	wantMarketErrors(t, m, api.OK)
}

// rangeOf is of which numbers a paper of a kind may be: none, if there is no such kind.
func rangeOf(kind uint8) api.Span {
	switch kind {
	case 1:
		return span(0, 0)
	case 2:
		return span(0, 3)
	case 3:
		return span(0, 9999)
	case 4:
		return span(1, 1000000)
	}
	return span(1, 0)
}

// TestPaperBounds sets each number of papers of all kinds to the ends of its range, and beyond (P10.3, R5, R6).
func TestPaperBounds(t *testing.T) {
	for kind := range 256 {
		within := rangeOf(uint8(kind))
		for _, n := range append(around(within.Lo, within.Hi), odd()...) {
			want := orError(within.Lo <= n && n <= within.Hi, api.ErrPapers)
			wantPaperErrors(t, shelf(), papers(paper(1, uint8(kind), n)), want)
			if kind < 8 {
				wantPaperErrors(t, shelf(), papers(treated(3), paper(9, uint8(kind), n), treated(1)), want)
			}
		}
	}
	for _, n := range append(around(0, 9999), odd()...) {
		set := func(ids ...int) []api.Paper {
			l, _ := every()
			for i, id := range ids {
				l[i].Id = id
			}
			return l[:len(ids)]
		}
		wantPaperErrors(t, shelf(), set(n), orError(0 <= n && n <= 9999, api.ErrPapers))
		wantPaperErrors(t, shelf(), set(n, 7), orError(0 <= n && n < 7, api.ErrPapers))
		wantPaperErrors(t, shelf(), set(4, n, 9), orError(4 < n && n < 9, api.ErrPapers))
		wantPaperErrors(t, shelf(), set(0, 1, n), orError(1 < n && n <= 9999, api.ErrPapers))
		isPole := slices.Contains([]int{1, 2, 3, 9}, n)
		for kind := range 4 {
			l := papers(treated(1), paper(n, uint8(kind+1), kind/3), treated(2))
			wantPaperErrors(t, shelf(), l, orError(isPole, api.ErrPapers))
		}
	}
}

// TestPaperLists has lists of all lengths (P10.3).
func TestPaperLists(t *testing.T) {
	for number := range 60 {
		l := slices.Repeat([]api.Paper{treated(3)}, number)
		wantPaperErrors(t, shelf(), papers(l...), orError(number <= 40, api.ErrPapers))
		if number > 1 {
			l = l[:min(number, 40)]
			l[len(l)-1].Id--
			wantPaperErrors(t, shelf(), l, api.ErrPapers)
		}
	}
	wantPaperErrors(t, shelf(), make([]api.Paper, 1<<16), api.ErrPapers)
	wantPaperErrors(t, library{g: grading()}, papers(treated(0)), api.ErrPapers)
	wantPaperErrors(t, library{g: grading()}, nil, api.OK)
}

// TestBooksBounds has gradings, sheets, groves and soaks that are wrong, of which grade's tests have more (P10.1, P10.3).
func TestBooksBounds(t *testing.T) {
	for i, x := range []struct {
		change func(s *api.Sheet, g *api.Grading)
		want   api.Errno
	}{
		{func(_ *api.Sheet, g *api.Grading) { g.Grades = nil }, api.ErrGrading}, {func(_ *api.Sheet, g *api.Grading) { *g = api.Grading{} }, api.ErrGrading},
		{func(_ *api.Sheet, g *api.Grading) { g.Grades = slices.Repeat(g.Grades[:1], 4) }, api.ErrGrading}, {func(_ *api.Sheet, g *api.Grading) { g.Vary = 200001 }, api.ErrGrading},
		{func(_ *api.Sheet, g *api.Grading) { g.Grades[1].Stress[2].Lo = 0 }, api.ErrGrading}, {func(_ *api.Sheet, g *api.Grading) { g.Grades = slices.Repeat(g.Grades[:1], 3) }, api.OK},
		{func(s *api.Sheet, _ *api.Grading) { s.Poles[1].Id = 1 }, api.ErrSheet}, {func(s *api.Sheet, _ *api.Grading) { s.Poles[2].Place = 4 }, api.ErrSheet},
		{func(s *api.Sheet, _ *api.Grading) { s.Tests[0].Pole = 7 }, api.ErrSheet}, {func(s *api.Sheet, _ *api.Grading) { s.Poles = nil }, api.ErrSheet},
		{func(s *api.Sheet, _ *api.Grading) { s.Tests = nil }, api.OK},
	} {
		m := usualMarket()
		x.change(&m.s, &m.g)
		wantMarketErrors(t, m, x.want)
		b := shelf()
		x.change(&b.s, &b.g)
		wantPaperErrors(t, b, papers(treated(1)), x.want)
		if t.Failed() {
			t.Fatal(i)
		}
	}
	for number := range 9 {
		b := shelf()
		b.groves = nil
		for i := range number {
			g := grove()
			g.Id = i
			b.groves = append(b.groves, g)
		}
		wantPaperErrors(t, b, papers(treated(1)), orError(number <= 6, api.ErrGroves))
		b = shelf()
		b.soaks = slices.Repeat(b.soaks, number)
		wantPaperErrors(t, b, papers(treated(1)), orError(number <= 6, api.ErrSoaks))
	}
	for _, hours := range append(around(0, 300), odd()...) {
		b := shelf()
		b.soaks[0].Hours = hours
		wantPaperErrors(t, b, papers(treated(1)), orError(0 <= hours && hours <= 300, api.ErrSoaks))
	}
	for _, id := range append(around(0, 9999), odd()...) {
		b := shelf()
		b.groves[0].Id = id
		wantPaperErrors(t, b, papers(treated(1)), orError(0 <= id && id <= 9999, api.ErrGroves))
	}
}
