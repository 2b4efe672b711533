package pool_test

import (
	"cmp"
	"slices"
	"testing"

	"canebrake/api"
	"canebrake/pool"
)

func span(lo, hi int) api.Span { return api.Span{Lo: lo, Hi: hi} }

// alike is a span for each section, the same one.
func alike(lo, hi int) [3]api.Span { return [3]api.Span{span(lo, hi), span(lo, hi), span(lo, hi)} }

// grading is that of the chapter's examples.
func grading() api.Grading {
	return api.Grading{Grades: []api.Grade{{Age: 2, Wall: 4, Stress: alike(20000, 60000)}, {Age: 3, Wall: 8, Stress: alike(40000, 90000)}}, Vary: 5000}
}

// pole has a foot of 3 times 10 times 90: 2,700.
func pole(id, clone, shot int) api.Pole {
	return api.Pole{Id: id, Clone: clone, Cut: 105, Shot: shot, Girths: [3]int{100, 80, 60}, Walls: [3]int{10, 8, 8}}
}

// sheet is that of the chapter's examples: 1 and 2 are of the grade 2, 3 is of the grade 1.
func sheet() api.Sheet {
	return api.Sheet{
		Poles: []api.Pole{pole(1, 7, 102), pole(2, 7, 102), pole(3, 7, 103)},
		Tests: []api.Test{{Id: 4, Pole: 1, Force: 135000, Held: true}, {Id: 5, Pole: 2, Force: 162000}},
	}
}

// mixed is the sheet of the chapter's examples, but 3 is of the clone 8.
func mixed() api.Sheet {
	s := sheet()
	s.Poles[2].Clone = 8
	return s
}

// coop is that of the chapter's examples.
func coop() api.Coop {
	return api.Coop{Holders: []api.Holder{{Family: 4, Clone: 7}}, Prices: [4]int{0, 10, 25, 40}, Rate: 300}
}

// both has the family 6 beside 4, which holds the clone 8.
func both() api.Coop {
	c := coop()
	c.Holders = append(c.Holders, api.Holder{Family: 6, Clone: 8})
	return c
}

// delivered are deliveries of families and poles, by the Ids from 0 on.
func delivered(pairs ...[2]int) []api.Delivery {
	var l []api.Delivery
	for id, x := range pairs {
		l = append(l, api.Delivery{Id: id, Family: x[0], Pole: x[1]})
	}
	return l
}

// due is what is due to a family, with what is left of its share.
func due(family, value, advance, share int) api.Due {
	return api.Due{Family: family, Value: value, Advance: advance, Share: share, Left: share - advance}
}

// market is arguments of Settle.
type market struct {
	c        api.Coop
	s        api.Sheet
	g        api.Grading
	l        []api.Delivery
	proceeds int
}

func (m market) settle() ([]api.Due, api.Errno) { return pool.Settle(m.c, m.s, m.g, m.l, m.proceeds) }

func wantDues(t *testing.T, m market, want ...api.Due) {
	t.Helper()
	if l, e := m.settle(); !slices.Equal(l, want) || e != api.OK {
		t.Error(m, "is", l, e, "not", want)
	}
	if e := pool.Check(m.c, m.s, m.g, m.l); e != api.OK {
		t.Error(m, "has", e)
	}
}

func wantNoDues(t *testing.T, m market, want api.Errno) {
	t.Helper()
	if l, e := m.settle(); len(l) > 0 || e != want {
		t.Error(m, "is", l, e, "not", want)
	}
}

// TestExamples has the examples of the chapter.
func TestExamples(t *testing.T) {
	wantDues(t, market{coop(), sheet(), grading(), delivered([2]int{4, 1}, [2]int{4, 2}, [2]int{4, 3}), 100}, api.Due{Family: 4, Value: 60, Advance: 17, Share: 100, Left: 83})
	wantDues(t, market{both(), mixed(), grading(), delivered([2]int{4, 1}, [2]int{4, 2}, [2]int{6, 3}), 100},
		api.Due{Family: 4, Value: 50, Advance: 14, Share: 83, Left: 69}, api.Due{Family: 6, Value: 10, Advance: 3, Share: 17, Left: 14})
	wantJudged(t, library{sheet(), grading(), []api.Grove{grove()}, nil}, papers(
		paper(1, api.PaperGrade, 2), paper(1, api.PaperGrade, 3), paper(1, api.PaperOrigin, 7), paper(1, api.PaperOrigin, 8),
		paper(1, api.PaperBears, 135000), paper(1, api.PaperBears, 150000), paper(1, api.PaperBears, 175498)), 2, 0, 1, 0, 2, 1, 0)
}

// byAge has a grade for each age from 1 to 3.
func byAge() api.Grading {
	var g api.Grading
	for age := range 3 {
		g.Grades = append(g.Grades, api.Grade{Age: age + 1, Wall: 1, Stress: alike(1, 200000)})
	}
	return g
}

// brought is of which grades the poles are that a family delivers.
type brought struct {
	family int
	grades []int
}

// fair is a market to which families bring poles. What they hold are clones of which that of the last family is the first one.
func fair(prices [4]int, rate, proceeds int, all ...brought) market {
	m := market{c: api.Coop{Prices: prices, Rate: rate}, g: byAge(), proceeds: proceeds}
	for _, x := range all {
		clone := 5000 - x.family
		m.c.Holders = append(m.c.Holders, api.Holder{Family: x.family, Clone: clone})
		for _, n := range x.grades {
			id := len(m.l)
			m.s.Poles = append(m.s.Poles, pole(id, clone, 105-n))
			m.l = append(m.l, api.Delivery{Id: id, Family: x.family, Pole: id})
		}
	}
	slices.SortFunc(m.c.Holders, func(a, b api.Holder) int { return cmp.Compare(a.Clone, b.Clone) })
	return m
}

// TestSettle has families that deliver poles of all grades, one, or none (P10.2).
func TestSettle(t *testing.T) {
	tens := [4]int{1, 10, 100, 1000}
	one, two, three := brought{3, []int{0, 1, 2, 3}}, brought{50, []int{3, 3, 1}}, brought{99, []int{0}}
	for _, x := range []struct {
		proceeds int
		all      []brought
		want     []api.Due
	}{
		{0, []brought{one}, []api.Due{due(3, 1111, 555, 0)}},
		{1000, []brought{one}, []api.Due{due(3, 1111, 555, 1000)}},
		{1000000000, []brought{one}, []api.Due{due(3, 1111, 555, 1000000000)}},
		{7, []brought{three}, []api.Due{due(99, 1, 0, 7)}},
		// 3,122 in all. The remainders of 3,122 times a number are none.
		{3122, []brought{one, two, three}, []api.Due{due(3, 1111, 555, 1111), due(50, 2010, 1005, 2010), due(99, 1, 0, 1)}},
		{6244, []brought{one, two, three}, []api.Due{due(3, 1111, 555, 2222), due(50, 2010, 1005, 4020), due(99, 1, 0, 2)}},
		{1, []brought{one, two, three}, []api.Due{due(3, 1111, 555, 0), due(50, 2010, 1005, 1), due(99, 1, 0, 0)}},
		// 2,222 of 3,122; 898 of 3,122 with 1 left: the coin goes to the first family.
		{2, []brought{one, two, three}, []api.Due{due(3, 1111, 555, 1), due(50, 2010, 1005, 1), due(99, 1, 0, 0)}},
		// Divided by 3,122 they leave 2,221, 898 and 3,121: two coins are left.
		{3121, []brought{one, two, three}, []api.Due{due(3, 1111, 555, 1111), due(50, 2010, 1005, 2009), due(99, 1, 0, 1)}},
		// Families stand in their order, whoever delivers first, and whoever does not deliver is not there.
		{3122, []brought{three, two, one, {0, nil}, {60, nil}}, []api.Due{due(3, 1111, 555, 1111), due(50, 2010, 1005, 2010), due(99, 1, 0, 1)}},
		{11, []brought{{99, []int{1}}, {0, []int{0}}}, []api.Due{due(0, 1, 0, 1), due(99, 10, 5, 10)}},
	} {
		wantDues(t, fair(tens, 500, x.proceeds, x.all...), x.want...)
	}
}

// TestCoinsThatAreLeft has families with the same values, so that all remainders are equal, and coins for none of them, for some, and for all but one (P10.2, P10.6).
func TestCoinsThatAreLeft(t *testing.T) {
	for families := 1; families <= 12; families++ {
		var all []brought
		for i := range families {
			// The last one delivers first, and each of them a pole of another grade at the same price.
			all = append(all, brought{8 * (families - i), []int{i % 4}})
		}
		for _, proceeds := range []int{0, 1, families - 1, families, families + 1, 2*families - 1, 1000, 999999999, 1000000000} {
			var want []api.Due
			for i := range families {
				share := proceeds / families
				if i < proceeds%families {
					share++
				}
				want = append(want, due(8*(i+1), 7, 3, share))
			}
			wantDues(t, fair([4]int{7, 7, 7, 7}, 500, proceeds, all...), want...)
		}
	}
	thirds := []brought{{30, []int{1}}, {10, []int{2}}, {20, []int{3}}}
	for _, x := range []struct{ proceeds, a, b, c int }{{0, 0, 0, 0}, {1, 1, 0, 0}, {2, 1, 1, 0}, {3, 1, 1, 1}, {100, 34, 33, 33}, {101, 34, 34, 33}, {102, 34, 34, 34}, {1000000000, 333333334, 333333333, 333333333}} {
		wantDues(t, fair([4]int{0, 1, 1, 1}, 0, x.proceeds, thirds...), due(10, 1, 0, x.a), due(20, 1, 0, x.b), due(30, 1, 0, x.c))
	}
	// Of greater remainders the greatest ones come first, then the lesser family: 7 times 1, 3, 3 and 5, divided by 12, leaves 7, 9, 9 and 11.
	some := []brought{{1, []int{1}}, {2, []int{2}}, {3, []int{2}}, {4, []int{3}}}
	for _, x := range [][5]int{{7, 0, 2, 2, 3}, {1, 0, 0, 0, 1}, {2, 0, 1, 0, 1}, {3, 0, 1, 1, 1}, {4, 0, 1, 1, 2}, {5, 1, 1, 1, 2}, {6, 1, 2, 1, 2}, {8, 1, 2, 2, 3}, {9, 1, 2, 2, 4}, {10, 1, 3, 2, 4}, {11, 1, 3, 3, 4}, {12, 1, 3, 3, 5}} {
		wantDues(t, fair([4]int{0, 1, 3, 5}, 0, x[0], some...), due(1, 1, 0, x[1]), due(2, 3, 0, x[2]), due(3, 3, 0, x[3]), due(4, 5, 0, x[4]))
	}
}

// TestWithoutValue has families whose Value is 0 beside others, and deliveries whose Value together is 0 (P10.2).
func TestWithoutValue(t *testing.T) {
	prices := [4]int{0, 10, 25, 40}
	poor := []brought{{2, []int{0}}, {5, []int{1}}, {6, []int{1}}, {9, []int{0, 0}}}
	for _, x := range []struct{ proceeds, five, six int }{{0, 0, 0}, {1, 1, 0}, {2, 1, 1}, {7, 4, 3}, {1000000000, 500000000, 500000000}} {
		wantDues(t, fair(prices, 300, x.proceeds, poor...), due(2, 0, 0, 0), due(5, 10, 3, x.five), due(6, 10, 3, x.six), due(9, 0, 0, 0))
	}
	wantNoDues(t, fair(prices, 300, 100), api.ErrNone)
	wantNoDues(t, fair(prices, 300, 100, brought{5, nil}), api.ErrNone)
	wantNoDues(t, fair(prices, 300, 0, brought{2, []int{0}}), api.ErrNone)
	wantNoDues(t, fair(prices, 300, 100, brought{2, []int{0}}, brought{3, []int{0, 0, 0}}), api.ErrNone)
	wantNoDues(t, fair([4]int{}, 300, 100, poor...), api.ErrNone)
	wantNoDues(t, fair([4]int{}, 1000, 1000000000, brought{5, []int{3, 2, 1, 0}}), api.ErrNone)
	// The least price is enough.
	wantDues(t, fair([4]int{0, 0, 0, 1}, 1000, 100, brought{2, []int{0, 1, 2}}, brought{3, []int{3}}), due(2, 0, 0, 0), due(3, 1, 1, 100))
}

// TestAdvance has parts in advance that are rounded down, for each delivery, and rates and prices at their ends (P10.2, P10.9).
func TestAdvance(t *testing.T) {
	for _, x := range []struct {
		prices         [4]int
		rate           int
		grades         []int
		value, advance int
	}{
		{[4]int{0, 10, 25, 40}, 300, []int{2, 2, 1}, 60, 17}, {[4]int{0, 10, 25, 40}, 300, []int{3, 3, 3}, 120, 36},
		{[4]int{0, 10, 25, 40}, 0, []int{3, 2, 1}, 75, 0}, {[4]int{0, 10, 25, 40}, 1000, []int{3, 2, 1, 0}, 75, 75},
		{[4]int{1, 1, 1, 1}, 999, []int{0, 1, 2, 3}, 4, 0}, {[4]int{1, 1, 1, 1}, 1000, []int{0, 1, 2, 3}, 4, 4},
		{[4]int{999, 1000, 1001, 2000}, 1, []int{0, 1, 2, 3}, 5000, 4}, {[4]int{999, 999, 999, 999}, 1, []int{0, 1, 2, 3}, 3996, 0},
		{[4]int{999999, 999999, 999999, 999999}, 999, []int{0, 3}, 1999998, 1997998},
		{[4]int{1000000, 1000000, 1000000, 1000000}, 1000, []int{0, 1, 2, 3, 0, 1, 2, 3, 0, 1, 2, 3}, 12000000, 12000000},
		{[4]int{0, 0, 0, 1000000}, 1000, []int{0, 1, 2, 3, 0, 1, 2, 3, 0, 1, 2, 3}, 3000000, 3000000},
	} {
		for _, proceeds := range []int{0, 1, x.advance, 1000000000} {
			wantDues(t, fair(x.prices, x.rate, proceeds, brought{4, x.grades}), due(4, x.value, x.advance, proceeds))
		}
	}
	// What is left may be below 0.
	wantDues(t, fair([4]int{0, 10, 25, 40}, 1000, 30, brought{4, []int{3}}, brought{5, []int{1, 1}}),
		api.Due{Family: 4, Value: 40, Advance: 40, Share: 20, Left: -20}, api.Due{Family: 5, Value: 20, Advance: 20, Share: 10, Left: -10})
	wantDues(t, fair([4]int{0, 0, 0, 1000000}, 1000, 0, brought{4, []int{3, 3, 3, 3, 3, 3, 3, 3, 3, 3, 3, 3}}), api.Due{Family: 4, Value: 12000000, Advance: 12000000, Left: -12000000})
	// With the greatest prices and proceeds no product overflows.
	wantDues(t, fair([4]int{1, 1, 1, 1000000}, 999, 1000000000, brought{4, []int{3, 3, 3, 3, 3, 3, 3, 3, 3, 3, 3}}, brought{5, []int{0}}), due(4, 11000000, 10989000, 999999909), due(5, 1, 0, 91))
}

// TestHolders has cooperatives without holders, with the most of them, and with families that hold several clones (P10.1, P10.2).
func TestHolders(t *testing.T) {
	none := api.Coop{Prices: [4]int{1, 1, 1, 1}}
	if e := pool.Check(none, sheet(), grading(), nil); e != api.OK {
		t.Error(e)
	}
	wantNoDues(t, market{none, sheet(), grading(), nil, 5}, api.ErrNone)
	wantNoDues(t, market{none, sheet(), grading(), delivered([2]int{0, 1}), 5}, api.ErrDeliveries)
	// The same family holds both clones: its values are one.
	c := both()
	c.Holders[1].Family = 4
	wantDues(t, market{c, mixed(), grading(), delivered([2]int{4, 3}, [2]int{4, 1}, [2]int{4, 2}), 100}, due(4, 60, 17, 100))
	// 24 holders of the clones 0, 400 and so on, and of 9,999. Those of the first and the last one deliver.
	c = api.Coop{Prices: [4]int{0, 10, 25, 40}, Rate: 300}
	for i := range 23 {
		c.Holders = append(c.Holders, api.Holder{Family: 99 - i%4*33, Clone: 400 * i})
	}
	c.Holders = append(c.Holders, api.Holder{Family: 50, Clone: 9999})
	s := sheet()
	s.Poles[0].Clone, s.Poles[1].Clone, s.Poles[2].Clone = 9999, 0, 400
	wantDues(t, market{c, s, grading(), delivered([2]int{66, 3}, [2]int{99, 2}, [2]int{50, 1}), 60}, due(50, 25, 7, 25), due(66, 10, 3, 10), due(99, 25, 7, 25))
	// A pole whose clone nobody holds may be on the sheet, but nobody delivers it.
	wantDues(t, market{coop(), mixed(), grading(), delivered([2]int{4, 1}, [2]int{4, 2}), 1}, due(4, 50, 14, 1))
	wantNoDues(t, market{coop(), mixed(), grading(), delivered([2]int{4, 1}, [2]int{4, 2}, [2]int{4, 3}), 1}, api.ErrDeliveries)
}

// TestBooksDoNotMatter settles poles with tests that contradict each other, which are worth the same (P10.2).
func TestBooksDoNotMatter(t *testing.T) {
	m := market{both(), mixed(), grading(), delivered([2]int{4, 1}, [2]int{4, 2}, [2]int{6, 3}), 100}
	m.s.Tests = append(m.s.Tests, api.Test{Id: 6, Pole: 2, Force: 118800})
	wantDues(t, m, due(4, 50, 14, 83), due(6, 10, 3, 17))
	m.s.Tests = nil
	wantDues(t, m, due(4, 50, 14, 83), due(6, 10, 3, 17))
}

// TestProceeds sets the proceeds to the ends of their range, and beyond (P10.2, R5).
func TestProceeds(t *testing.T) {
	for _, n := range append(around(0, 1000000000), odd()...) {
		m := market{both(), mixed(), grading(), delivered([2]int{4, 1}, [2]int{6, 3}), n}
		l, e := m.settle()
		if n >= 0 && n <= 1000000000 {
			if e != api.OK || len(l) != 2 || l[0].Share+l[1].Share != n {
				t.Error(n, l, e)
			}
		} else if e != api.ErrArg || len(l) > 0 {
			t.Error(n, l, e)
		}
	}
}
