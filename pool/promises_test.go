package pool_test

import (
	"math/rand/v2"
	"slices"
	"testing"

	"canebrake/api"
	"canebrake/grade"
	"canebrake/pool"
)

// tally counts which kinds of answers were met.
type tally map[string]int

// want looks for kinds that were hardly met.
func (y tally) want(t *testing.T, least int, kinds ...string) {
	t.Helper()
	for _, kind := range kinds {
		if y[kind] < least {
			t.Error("one kind of answer was hardly met:", kind, y[kind])
		}
	}
}

// coinsLeft is how many families got a coin more than the proceeds times their Value, divided by that of all, and how many there are with a Value.
func coinsLeft(m market, dues []api.Due) (coins, families int) {
	all := valueOf(dues)
	for _, d := range dues {
		coins += d.Share - m.proceeds*d.Value/all
		families += min(d.Value, 1)
	}
	return coins, families
}

func valueOf(dues []api.Due) int {
	all := 0
	for _, d := range dues {
		all += d.Value
	}
	return all
}

// TestSettleModel holds what is due against the model (P10.2).
func TestSettleModel(t *testing.T) {
	r := chance(1)
	met := tally{}
	for range 20000 {
		m := anyMarket(r)
		want, ok := modelSettle(m)
		if !ok {
			wantNoDues(t, m, api.ErrNone)
			met["none"]++
			continue
		}
		wantDues(t, m, want...)
		coins, families := coinsLeft(m, want)
		switch {
		case coins == 0:
			met["no coins"]++
		case families > 2 && coins == families-1:
			met["coins for all but one"]++
		default:
			met["some coins"]++
		}
		for _, d := range want {
			if d.Left < 0 {
				met["below 0"]++
			}
			if d.Value == 0 {
				met["no value"]++
			}
		}
		if t.Failed() {
			t.FailNow()
		}
	}
	met.want(t, 500, "none", "no coins", "some coins", "coins for all but one", "below 0", "no value")
}

// TestSharesAddUp adds shares, and holds each against its exact part (P10.5).
func TestSharesAddUp(t *testing.T) {
	r := chance(2)
	met := tally{}
	for range 20000 {
		m := anyMarket(r)
		dues, e := m.settle()
		if e != api.OK {
			continue
		}
		all, together := valueOf(dues), 0
		for _, d := range dues {
			together += d.Share
			// Both are the share, and the exact part, times the Value of all.
			if far := d.Share*all - m.proceeds*d.Value; far <= -all || far >= all {
				t.Fatal(m, dues)
			} else if far != 0 {
				met["not exact"]++
			}
			if d.Left != d.Share-d.Advance {
				t.Fatal(m, dues)
			}
		}
		if together != m.proceeds || !slices.IsSortedFunc(dues, func(a, b api.Due) int { return a.Family - b.Family }) {
			t.Fatal(m, dues)
		}
		if len(dues) > 1 {
			met["several"]++
		}
	}
	met.want(t, 5000, "not exact", "several")
}

// TestOrderDoesNotMatter delivers the same poles in other orders, under other numbers, and by other clones (P10.5).
func TestOrderDoesNotMatter(t *testing.T) {
	r := chance(3)
	met := tally{}
	for range 12000 {
		m := anyMarket(r)
		want, e := m.settle()
		same := func(other market) {
			t.Helper()
			if got, f := other.settle(); f != e || !slices.Equal(got, want) {
				t.Fatal(m, other, want, e, got, f)
			}
		}
		if e == api.OK && len(want) > 1 {
			met["several"]++
		}
		same(inOtherOrder(r, m))
		same(underOtherNumbers(r, m))
		same(byOtherClones(r, m))
		same(inOtherOrder(r, underOtherNumbers(r, byOtherClones(r, m))))
	}
	met.want(t, 3000, "several")
}

// inOtherOrder gives deliveries other Ids, by which they stand in another order.
func inOtherOrder(r *rand.Rand, m market) market {
	m.l = slices.Clone(m.l)
	r.Shuffle(len(m.l), func(i, k int) { m.l[i], m.l[k] = m.l[k], m.l[i] })
	for i, id := range idsOf(r, len(m.l)) {
		m.l[i].Id = id
	}
	return m
}

// underOtherNumbers gives poles other Ids, by which they stand in another order.
func underOtherNumbers(r *rand.Rand, m market) market {
	m.l, m.s.Poles = slices.Clone(m.l), slices.Clone(m.s.Poles)
	r.Shuffle(len(m.s.Poles), func(i, k int) { m.s.Poles[i], m.s.Poles[k] = m.s.Poles[k], m.s.Poles[i] })
	now := map[int]int{}
	for i, id := range idsOf(r, len(m.s.Poles)) {
		now[m.s.Poles[i].Id] = id
		m.s.Poles[i].Id = id
	}
	for i := range m.l {
		m.l[i].Pole = now[m.l[i].Pole]
	}
	return m
}

// byOtherClones gives clones other Ids, by which their holders stand in another order.
func byOtherClones(r *rand.Rand, m market) market {
	m.c.Holders, m.s.Poles = slices.Clone(m.c.Holders), slices.Clone(m.s.Poles)
	r.Shuffle(len(m.c.Holders), func(i, k int) { m.c.Holders[i], m.c.Holders[k] = m.c.Holders[k], m.c.Holders[i] })
	now := map[int]int{}
	for i, id := range idsOf(r, len(m.c.Holders)) {
		now[m.c.Holders[i].Clone] = id
		m.c.Holders[i].Clone = id
	}
	for i := range m.s.Poles {
		m.s.Poles[i].Clone = now[m.s.Poles[i].Clone]
	}
	return m
}

// TestWhoDeliveredWhatDoesNotMatter lets two families deliver each other's poles of the same grade (P10.5).
func TestWhoDeliveredWhatDoesNotMatter(t *testing.T) {
	r := chance(4)
	met := 0
	for met < 3000 {
		m := anyMarket(r)
		if len(m.l) < 2 {
			continue
		}
		i, k := r.IntN(len(m.l)), r.IntN(len(m.l))
		a, b := modelPole(m.s, m.l[i].Pole), modelPole(m.s, m.l[k].Pole)
		if m.l[i].Family == m.l[k].Family || modelGrade(m.g, a) != modelGrade(m.g, b) {
			continue
		}
		met++
		want, e := m.settle()
		other := m
		other.l, other.s.Poles = slices.Clone(m.l), slices.Clone(m.s.Poles)
		other.l[i].Pole, other.l[k].Pole = b.Id, a.Id
		other.s.Poles[slices.Index(m.s.Poles, a)].Clone = b.Clone
		other.s.Poles[slices.Index(m.s.Poles, b)].Clone = a.Clone
		if got, f := other.settle(); f != e || !slices.Equal(got, want) {
			t.Fatal(m, other, want, e, got, f)
		}
	}
}

// TestOtherFamilies gives families other numbers, by which they stand in the same order: their shares go with them (P10.5).
func TestOtherFamilies(t *testing.T) {
	r := chance(12)
	met := tally{}
	for range 5000 {
		m := anyMarket(r)
		want, e := m.settle()
		all := r.Perm(100)[:len(familiesOf(m.c))]
		slices.Sort(all)
		now := map[int]int{}
		for i, family := range familiesOf(m.c) {
			now[family] = all[i]
		}
		other := m
		other.c.Holders, other.l = slices.Clone(m.c.Holders), slices.Clone(m.l)
		for i := range other.c.Holders {
			other.c.Holders[i].Family = now[other.c.Holders[i].Family]
		}
		for i := range other.l {
			other.l[i].Family = now[other.l[i].Family]
		}
		got, f := other.settle()
		for i := range want {
			want[i].Family = now[want[i].Family]
		}
		if f != e || !slices.Equal(got, want) {
			t.Fatal(m, other, want, e, got, f)
		}
		if len(want) > 1 {
			met["several"]++
		}
	}
	met.want(t, 1000, "several")
}

// familiesOf are the families of a cooperative, in ascending order.
func familiesOf(c api.Coop) []int {
	var all []int
	for _, h := range c.Holders {
		all = append(all, h.Family)
	}
	slices.Sort(all)
	return slices.Compact(all)
}

// TestMoreValueIsNoLess compares the shares of all families (P10.6).
func TestMoreValueIsNoLess(t *testing.T) {
	r := chance(5)
	met := tally{}
	for range 20000 {
		m := anyMarket(r)
		dues, _ := m.settle()
		for i, a := range dues {
			for _, b := range dues[i+1:] {
				switch {
				case a.Value == b.Value:
					// The lesser Family stands first.
					if a.Share-b.Share < 0 || a.Share-b.Share > 1 {
						t.Fatal(m, a, b)
					}
					met["equal"] += a.Share - b.Share
				case (a.Value > b.Value) != (a.Share > b.Share) && a.Share != b.Share:
					t.Fatal(m, a, b)
				default:
					met["more"]++
				}
			}
		}
	}
	met.want(t, 1000, "equal", "more")
}

// TestTable holds what is known of papers against the chapter's table, and with it what may be sold abroad (P10.3, P10.4).
func TestTable(t *testing.T) {
	r := chance(6)
	met := tally{}
	for range 1500 {
		b, x := anyLibrary(r)
		if r.IntN(8) == 0 && len(b.s.Tests) > 0 {
			b.s.Tests[0].Held = !b.s.Tests[0].Held
		}
		l := anyPapers(r, b, x, among(r, 0, 40))
		var want []uint8
		for _, p := range l {
			known := modelKnown(b, p)
			want = append(want, known)
			met[kindOf(p, known)]++
		}
		wantJudged(t, b, l, want...)
		// With few papers more poles may be sold.
		for _, some := range [][]api.Paper{l, l[:min(len(l), 4)]} {
			ids := modelAbroad(b, some)
			wantAbroad(t, b, some, ids...)
			met["abroad"] += len(ids)
		}
		if t.Failed() {
			t.FailNow()
		}
	}
	met.want(t, 200, everyKind()...)
	met.want(t, 300, "abroad")
}

// kindOf names what is known of a paper.
func kindOf(p api.Paper, known uint8) string {
	return []string{"", "treated", "grade", "origin", "bears"}[p.Kind] + []string{" no", " open", " yes"}[known]
}

// everyKind is all that may be known of papers. Of a grade nothing is open.
func everyKind() []string {
	return []string{"treated no", "treated open", "treated yes", "grade no", "grade yes", "origin no", "origin open", "origin yes", "bears no", "bears open", "bears yes"}
}

// TestFalsePapers draws truths, and papers of which some are so in them, and some are not (P10.7).
func TestFalsePapers(t *testing.T) {
	r := chance(7)
	met := tally{}
	for range 1500 {
		b, x := anyLibrary(r)
		l := anyPapers(r, b, x, 40)
		known, e := b.judge(l)
		if e != api.OK {
			t.Fatal(b, e)
		}
		for i, p := range l {
			so := x.so(b, p)
			if so && known[i] == api.KnownNo || !so && known[i] == api.KnownYes {
				t.Fatal(b, x, p, so, known[i])
			}
			name := kindOf(p, known[i])
			if so {
				name += ", and is so"
			}
			met[name]++
		}
		// With few papers more poles may be sold.
		some := l[:8]
		ids, e := b.abroad(some)
		for _, id := range ids {
			p := modelPole(b.s, id)
			if !x.reached(b, p) || !x.own[id] && slices.ContainsFunc(some, func(p api.Paper) bool { return p.Pole == id && p.Kind == api.PaperOrigin }) {
				t.Fatal(b, x, some, ids)
			}
			met["abroad"]++
		}
		if e != api.OK {
			t.Fatal(b, e)
		}
	}
	met.want(t, 200, "treated no", "treated open", "treated open, and is so", "treated yes, and is so", "grade no", "grade yes, and is so",
		"origin no", "origin open", "origin open, and is so", "origin yes, and is so", "bears no", "bears open", "bears open, and is so", "bears yes, and is so", "abroad")
}

// TestOpenPapers looks whether what is open may be so, and may not be, and what is known is so whatever is true (P10.7).
func TestOpenPapers(t *testing.T) {
	r := chance(8)
	met := tally{}
	for range 600 {
		b, x := anyLibrary(r)
		l := anyPapers(r, b, x, 12)
		known, e := b.judge(l)
		if e != api.OK {
			t.Fatal(b, e)
		}
		for i, p := range l {
			may, mayNot := possible(b, p)
			want := [3][2]bool{{false, true}, {true, true}, {true, false}}[known[i]]
			if [2]bool{may, mayNot} != want {
				t.Fatal(b, p, known[i], may, mayNot)
			}
			met[kindOf(p, known[i])]++
		}
	}
	met.want(t, 50, everyKind()...)
}

// possible tells whether what a paper says is so in some truth, and not so in some.
func possible(b library, l api.Paper) (may, mayNot bool) {
	p := modelPole(b.s, l.Pole)
	switch {
	case l.Kind == api.PaperTreated && p.Soak < len(b.soaks):
		s := b.soaks[p.Soak].Batch.Spread
		for spread := s.Lo; spread <= s.Hi; spread++ {
			reached := truth{spread: slices.Repeat([]int{spread}, len(b.soaks))}.reached(b, p)
			may, mayNot = may || reached, mayNot || !reached
		}
	case l.Kind == api.PaperGrade:
		may = modelGrade(b.g, p) >= l.N
		mayNot = !may
	case l.Kind == api.PaperOrigin:
		culms, written := 0, 0
		for _, from := range felled(b.groves) {
			if from == originOf(p) {
				culms++
			}
		}
		for _, other := range b.s.Poles {
			if originOf(other) == originOf(p) {
				written++
			}
		}
		may = p.Clone == l.N && culms > 0
		mayNot = p.Clone != l.N || culms < written
	case l.Kind == api.PaperBears && modelGrade(b.g, p) > 0:
		may, mayNot = allowsTest(b, l, true), allowsTest(b, l, false)
	default:
		mayNot = true
	}
	return may, mayNot
}

// allowsTest tells whether there is a truth in which the foot of a paper's pole holds the force that is written on it, or does not.
func allowsTest(b library, l api.Paper, held bool) bool {
	s := b.s
	s.Tests = append(slices.Clone(s.Tests), api.Test{Id: 9999, Pole: l.Pole, Force: l.N, Held: held})
	clash, e := grade.Clash(s, b.g)
	return e == api.OK && len(clash) == 0
}

// TestOnePaperMore adds a paper anywhere: no pole is sold abroad that was not, but by a PaperTreated of it (P10.8).
func TestOnePaperMore(t *testing.T) {
	r := chance(9)
	met := tally{}
	for range 10000 {
		b, x := anyLibrary(r)
		b.s.Poles, b.s.Tests = b.s.Poles[:min(len(b.s.Poles), 3)], nil
		b.soaks = b.soaks[:1]
		for i := range b.s.Poles {
			b.s.Poles[i].Soak = 0
		}
		all := anyPapers(r, b, x, among(r, 1, 10))
		at := r.IntN(len(all))
		more := all[at]
		fewer := slices.Delete(slices.Clone(all), at, at+1)
		was, _ := b.abroad(fewer)
		is, e := b.abroad(all)
		if e != api.OK {
			t.Fatal(b, all, e)
		}
		for _, id := range is {
			if !slices.Contains(was, id) && (more.Kind != api.PaperTreated || more.Pole != id) {
				t.Fatal(b, all, more, was, is)
			}
		}
		for _, id := range was {
			if !slices.Contains(is, id) && more.Pole != id {
				t.Fatal(b, all, more, was, is)
			}
		}
		met[[]string{"fewer", "as many", "more"}[1+len(is)-len(was)]]++
	}
	met.want(t, 200, "fewer", "as many", "more")
}

// TestAdvanceIsNeverMore compares what is paid in advance with values, by all rates (P10.9).
func TestAdvanceIsNeverMore(t *testing.T) {
	r := chance(10)
	met := tally{}
	for range 10000 {
		m := anyMarket(r)
		dues, _ := m.settle()
		for _, d := range dues {
			if d.Advance > d.Value || d.Advance < 0 || m.c.Rate == 0 && d.Advance != 0 || m.c.Rate == 1000 && d.Advance != d.Value {
				t.Fatal(m, d)
			}
			if d.Advance < d.Value*m.c.Rate/1000 {
				met["rounded down for each"]++
			}
		}
	}
	met.want(t, 200, "rounded down for each")
	for rate := range 1001 {
		m := usualMarket()
		m.c.Rate = rate
		dues, e := m.settle()
		if e != api.OK || dues[0].Advance != 25*rate/1000*2 || dues[1].Advance != 10*rate/1000 {
			t.Fatal(rate, dues, e)
		}
	}
}

// TestCheckOfAny asks whether drawn markets are valid: all are (P10.1).
func TestCheckOfAny(t *testing.T) {
	r := chance(11)
	for range 5000 {
		m := anyMarket(r)
		if e := pool.Check(m.c, m.s, m.g, m.l); e != api.OK {
			t.Fatal(m, e)
		}
	}
}
