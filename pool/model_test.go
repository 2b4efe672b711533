package pool_test

import (
	"math/big"
	"math/rand/v2"
	"slices"

	"canebrake/api"
	"canebrake/clump"
	"canebrake/cure"
	"canebrake/grade"
)

// The model of these tests divides by fractions, gives coins out one by one, and asks the books once for each paper: it shares nothing with the package.

func modelGrade(g api.Grading, p api.Pole) int {
	for n := len(g.Grades); n > 0; n-- {
		x := g.Grades[n-1]
		if p.Shot+x.Age <= p.Cut && p.Walls[0] >= x.Wall && p.Walls[1] >= x.Wall && p.Walls[2] >= x.Wall {
			return n
		}
	}
	return 0
}

// modelPole is the pole with an Id, which has to be there.
func modelPole(s api.Sheet, id int) api.Pole {
	for _, p := range s.Poles {
		if p.Id == id {
			return p
		}
	}
	panic("no such pole")
}

// modelSettle is what is due, and whether anything was delivered that is of value.
func modelSettle(m market) (dues []api.Due, ok bool) {
	all := 0
	for family := range 100 {
		d, there := api.Due{Family: family}, false
		for _, x := range m.l {
			if x.Family == family {
				price := m.c.Prices[modelGrade(m.g, modelPole(m.s, x.Pole))]
				d.Value += price
				d.Advance += int(new(big.Int).Div(big.NewInt(int64(price*m.c.Rate)), big.NewInt(1000)).Int64())
				there = true
			}
		}
		if there {
			dues = append(dues, d)
			all += d.Value
		}
	}
	if all == 0 {
		return nil, false
	}
	missing := make([]*big.Rat, len(dues))
	coins := m.proceeds
	for i := range dues {
		exact := new(big.Rat).Mul(big.NewRat(int64(m.proceeds), 1), big.NewRat(int64(dues[i].Value), int64(all)))
		dues[i].Share = int(new(big.Int).Div(exact.Num(), exact.Denom()).Int64())
		missing[i] = exact.Sub(exact, big.NewRat(int64(dues[i].Share), 1))
		coins -= dues[i].Share
	}
	for range coins {
		next := -1
		for i, part := range missing {
			if part.Sign() > 0 && (next < 0 || part.Cmp(missing[next]) > 0) {
				next = i
			}
		}
		dues[next].Share++
		missing[next] = new(big.Rat)
	}
	for i := range dues {
		dues[i].Left = dues[i].Share - dues[i].Advance
	}
	return dues, true
}

// modelKnown is what is known of a paper, as the chapter's table says.
func modelKnown(b library, p api.Paper) uint8 {
	at := slices.Index(b.s.Poles, modelPole(b.s, p.Pole))
	no, open, yes := uint8(0), uint8(1), uint8(2)
	switch p.Kind {
	case 1:
		fit, _ := grade.Fit(b.s, b.g, b.soaks)
		return fit[at]
	case 2:
		if modelGrade(b.g, b.s.Poles[at]) >= p.N {
			return yes
		}
	case 3:
		if b.s.Poles[at].Clone == p.N {
			trace, _ := grade.Trace(b.s, b.g, b.groves)
			return trace[at]
		}
	case 4:
		foot, e := grade.Strength(b.s, b.g, p.Pole, 0)
		if e == api.OK && foot.Lo >= p.N {
			return yes
		}
		if e == api.OK && foot.Hi >= p.N {
			return open
		}
	}
	return no
}

// modelAbroad looks at all papers of one pole after the other.
func modelAbroad(b library, l []api.Paper) []int {
	var ids []int
	for _, p := range b.s.Poles {
		treated, sure := 0, true
		for _, x := range l {
			if x.Pole == p.Id {
				sure = sure && modelKnown(b, x) == 2
				if x.Kind == 1 {
					treated++
				}
			}
		}
		if treated > 0 && sure {
			ids = append(ids, p.Id)
		}
	}
	return ids
}

func chance(seed uint64) *rand.Rand { return rand.New(rand.NewPCG(seed, 10)) }

// among is a number of a span.
func among(r *rand.Rand, lo, hi int) int { return lo + r.IntN(hi-lo+1) }

// one is one of several numbers.
func one(r *rand.Rand, numbers ...int) int { return numbers[r.IntN(len(numbers))] }

// idsOf are so many numbers from 0 to 9,999, in ascending order.
func idsOf(r *rand.Rand, number int) []int {
	var ids []int
	for len(ids) < number {
		id := among(r, 0, one(r, 30, 9999))
		if !slices.Contains(ids, id) {
			ids = append(ids, id)
		}
	}
	slices.Sort(ids)
	return ids
}

// anyCoop is a cooperative of several families, or of a few, which hold clones without any order.
func anyCoop(r *rand.Rand) api.Coop {
	c := api.Coop{Rate: one(r, 0, 1, 300, 999, 1000, r.IntN(1001))}
	last := one(r, 0, 2, 5, 99)
	for _, clone := range idsOf(r, one(r, 1, 3, 12, 24)) {
		c.Holders = append(c.Holders, api.Holder{Family: among(r, 0, last), Clone: clone})
	}
	most := one(r, 0, 1, 3, 40, 1000000)
	for i := range c.Prices {
		c.Prices[i] = among(r, 0, most)
	}
	slices.Sort(c.Prices[:])
	if r.IntN(3) > 0 {
		c.Prices[0] = 0
	}
	return c
}

// anyMarket is a market with up to 12 poles, of which more often than not all are delivered, in any order.
func anyMarket(r *rand.Rand) market {
	m := market{c: anyCoop(r), g: byAge(), proceeds: one(r, 0, 1, 7, 100, 1000000000, r.IntN(40), r.IntN(1000000001))}
	for _, id := range idsOf(r, one(r, 0, 2, 5, 12, r.IntN(13))) {
		p := pole(id, m.c.Holders[r.IntN(len(m.c.Holders))].Clone, 105-r.IntN(6))
		m.s.Poles = append(m.s.Poles, p)
	}
	m.l = anyDeliveries(r, m)
	return m
}

// anyDeliveries are deliveries of all poles of a market, or of some.
func anyDeliveries(r *rand.Rand, m market) []api.Delivery {
	var l []api.Delivery
	for _, p := range m.s.Poles {
		l = append(l, api.Delivery{Family: familyOf(m.c, p.Clone), Pole: p.Id})
	}
	r.Shuffle(len(l), func(i, k int) { l[i], l[k] = l[k], l[i] })
	if r.IntN(3) == 0 {
		l = l[:r.IntN(len(l)+1)]
	}
	for i, id := range idsOf(r, len(l)) {
		l[i].Id = id
	}
	return l
}

func familyOf(c api.Coop, clone int) int {
	for _, h := range c.Holders {
		if h.Clone == clone {
			return h.Family
		}
	}
	panic("nobody holds it")
}

// truth is what is so of the poles of a library, one of several that may be: the stress of each foot that has a grade, by Ids, the spread of each soak, and which poles are what is written on them.
type truth struct {
	stress map[int]int
	spread []int
	own    map[int]bool
}

// origin is what is written on a pole.
type origin struct{ clone, cut, shot int }

func originOf(p api.Pole) origin { return origin{p.Clone, p.Cut, p.Shot} }

// felled are all culms that were cut by the books of groves: what has to be written on their poles, once for each culm.
func felled(groves []api.Grove) []origin {
	var all []origin
	for _, g := range groves {
		for year := g.First; year <= g.First+len(g.Seasons); year++ {
			takes, _ := clump.Taken(g, year)
			for _, x := range takes {
				all = append(all, slices.Repeat([]origin{{g.Id, year, x.Shot}}, x.Number)...)
			}
		}
	}
	return all
}

// anyGrove is a valid grove with some seasons, in most of which something is cut.
func anyGrove(r *rand.Rand, id int) api.Grove {
	g := api.Grove{Id: id, Habit: api.Habit{Dies: among(r, 3, 6)}, First: among(r, 10, 20)}
	g.Habit.Ripe = among(r, 1, 2)
	for range g.Habit.Dies + 1 {
		g.Start = append(g.Start, r.IntN(3))
	}
	for range among(r, 1, 4) {
		g.Seasons = append(g.Seasons, api.Season{Shots: r.IntN(4), Cut: r.IntN(5)})
		last := &g.Seasons[len(g.Seasons)-1]
		for clump.Check(g) != api.OK {
			last.Cut--
		}
	}
	return g
}

// anySoak is a soak with cores that need much, or little.
func anySoak(r *rand.Rand) api.Soak {
	lo := among(r, 1, 250)
	b := api.Batch{Water: among(r, 10, 40), Borax: among(r, 0, 4000), Spread: span(lo, among(r, lo, 250)), Need: among(r, 1, 40)}
	for range among(r, 1, 4) {
		cells := make([]int, among(r, 1, 3))
		for i := range cells {
			cells[i] = r.IntN(2) * r.IntN(60)
		}
		b.Poles = append(b.Poles, cells)
	}
	return api.Soak{Batch: b, Hours: r.IntN(12)}
}

// anyGrading is a grading by which a pole is mostly of some grade.
func anyGrading(r *rand.Rand) api.Grading {
	g := api.Grading{Vary: one(r, 0, 1000, 40000, 200000)}
	age, wall := 0, 1
	for range among(r, 1, 3) {
		age, wall = among(r, age, age+1), among(r, wall, wall+3)
		x := api.Grade{Age: age, Wall: wall}
		for section := range x.Stress {
			lo := among(r, 1, 50000)
			x.Stress[section] = span(lo, among(r, lo, lo+one(r, 0, 3000, 100000)))
		}
		g.Grades = append(g.Grades, x)
	}
	return g
}

// anyPole is a pole of an origin.
func anyPole(r *rand.Rand, id int, from origin) api.Pole {
	p := api.Pole{Id: id, Clone: from.clone, Cut: from.cut, Shot: from.shot, Soak: r.IntN(4), Place: r.IntN(3)}
	for section := range p.Walls {
		p.Walls[section] = among(r, 4, 12)
		p.Girths[section] = among(r, 24, 120)
	}
	return p
}

// anyLibrary is a library with up to 12 poles, and one of its truths, of which its tests tell.
func anyLibrary(r *rand.Rand) (library, truth) {
	b := library{g: anyGrading(r), groves: []api.Grove{anyGrove(r, 3), anyGrove(r, 8)}[:among(r, 1, 2)]}
	for range among(r, 1, 4) {
		b.soaks = append(b.soaks, anySoak(r))
	}
	all := append(felled(b.groves), origin{3, 12, 10}, origin{8, 14, 11}, origin{77, 13, 10})
	for _, id := range idsOf(r, among(r, 1, 12)) {
		from := all[r.IntN(min(len(all), 7))]
		if r.IntN(6) == 0 {
			from = all[len(all)-1-r.IntN(3)]
		}
		b.s.Poles = append(b.s.Poles, anyPole(r, id, from))
	}
	x := anyTruth(r, b)
	b.s.Tests = trueTests(r, b, x)
	return b, x
}

// anyTruth is what may be so of poles without tests.
func anyTruth(r *rand.Rand, b library) truth {
	x := truth{stress: map[int]int{}, own: map[int]bool{}}
	var least [4]int
	for n, g := range b.g.Grades {
		least[n+1] = among(r, g.Stress[0].Lo, g.Stress[0].Hi)
	}
	for _, p := range b.s.Poles {
		if n := modelGrade(b.g, p); n > 0 {
			x.stress[p.Id] = among(r, least[n], min(least[n]+b.g.Vary, b.g.Grades[n-1].Stress[0].Hi))
		}
	}
	for _, s := range b.soaks {
		x.spread = append(x.spread, among(r, s.Batch.Spread.Lo, s.Batch.Spread.Hi))
	}
	left := map[origin]int{}
	for _, from := range felled(b.groves) {
		left[from]++
	}
	for _, i := range r.Perm(len(b.s.Poles)) {
		p := b.s.Poles[i]
		x.own[p.Id] = left[originOf(p)] > 0
		left[originOf(p)]--
	}
	return x
}

// strength is how strong the foot of a pole is in a truth.
func (x truth) strength(p api.Pole) int {
	area := 3*p.Walls[0]*p.Girths[0] - 3*p.Walls[0]*p.Walls[0]
	return min(1000000, x.stress[p.Id]*area/1000)
}

// trueTests are tests of feet that tell of a truth, with forces near to their strengths.
func trueTests(r *rand.Rand, b library, x truth) []api.Test {
	var tests []api.Test
	for id := range r.IntN(8) {
		p := b.s.Poles[r.IntN(len(b.s.Poles))]
		n := x.strength(p)
		force := min(1000000, max(1, n+among(r, -300, 300)))
		tests = append(tests, api.Test{Id: id, Pole: p.Id, Force: force, Held: n >= force})
	}
	return tests
}

// reached tells whether the core of a pole has been reached in a truth.
func (x truth) reached(b library, p api.Pole) bool {
	if p.Soak >= len(b.soaks) || p.Place >= len(b.soaks[p.Soak].Batch.Poles) {
		return false
	}
	s := b.soaks[p.Soak]
	for hour := range s.Hours + 1 {
		_, poles, _ := cure.Run(s.Batch, x.spread[p.Soak], hour)
		if cells := poles[p.Place]; cells[len(cells)-1] >= s.Batch.Need {
			return true
		}
	}
	return false
}

// so tells whether what a paper says is so in a truth. A foot without a grade bears nothing that a paper may tell of.
func (x truth) so(b library, l api.Paper) bool {
	p := modelPole(b.s, l.Pole)
	switch l.Kind {
	case 1:
		return x.reached(b, p)
	case 2:
		return modelGrade(b.g, p) >= l.N
	case 3:
		return p.Clone == l.N && x.own[p.Id]
	}
	return x.strength(p) >= l.N
}

// anyPaper is a paper of a pole, which may be so or not.
func anyPaper(r *rand.Rand, b library, x truth, id int) api.Paper {
	p := b.s.Poles[r.IntN(len(b.s.Poles))]
	l := api.Paper{Id: id, Pole: p.Id, Kind: uint8(among(r, 1, 4))}
	switch l.Kind {
	case 2:
		l.N = among(r, 0, 3)
	case 3:
		l.N = one(r, p.Clone, p.Clone, p.Clone, 3, 8, r.IntN(10000))
	case 4:
		l.N = x.strength(p) + among(r, -1, 1)
		if foot, e := grade.Strength(b.s, b.g, p.Id, 0); e == api.OK && r.IntN(2) == 0 {
			l.N = one(r, foot.Lo, foot.Lo+1, foot.Hi, foot.Hi+1)
		}
		l.N = min(1000000, max(1, l.N))
	}
	return l
}

// anyPapers are so many papers, the Ids of which may be far from each other.
func anyPapers(r *rand.Rand, b library, x truth, number int) []api.Paper {
	var l []api.Paper
	for _, id := range idsOf(r, number) {
		l = append(l, anyPaper(r, b, x, id))
	}
	return l
}
