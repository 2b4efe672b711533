package weave_test

import (
	"math/rand/v2"
	"slices"
	"testing"

	"canebrake/api"
	"canebrake/stock"
	"canebrake/weave"
)

// tally counts which kinds of answers were met.
type tally map[string]int

// want looks for kinds that were hardly met.
func (y tally) want(t *testing.T, least int, kinds ...string) {
	t.Helper()
	for _, kind := range kinds {
		if y[kind] < least {
			t.Error("one kind of answer was hardly met:", kind, y[kind])
		}
	}
}

// kindOf names what falls off, of several lists that are equally few.
func kindOf(lists [][]int) string {
	switch {
	case len(lists) == 0:
		return "none"
	case len(lists) > 1:
		return "one of several"
	case len(lists[0]) == 1:
		return "one alone"
	}
	return "some together"
}

// TestModel holds all that is told of small screens against the model, which goes through all sets of strips (P8.1 to P8.3, P8.6).
func TestModel(t *testing.T) {
	r := chance(1)
	met := tally{}
	for range 6000 {
		p := anyPattern(r, 5, 5)
		s := anyScreen(r, p, 5)
		w := model(p, s)
		lists := w.allLists()
		met[kindOf(fewest(lists))]++
		wantFloat(t, p, s, w.float())
		wantLoose(t, p, s, w.loose()...)
		wantFalls(t, p, s, first(lists)...)
		g := anyGauge(r)
		wantLengths(t, p, s, g, w.lengths(s, g)...)
		if t.Failed() {
			t.FailNow()
		}
	}
	met.want(t, 100, "none", "one alone", "one of several", "some together")
}

// TestWide has screens and patterns of all sizes (P8.1 to P8.3).
func TestWide(t *testing.T) {
	r := chance(2)
	met := tally{}
	for range 2500 {
		p := anyPattern(r, 8, 8)
		s := anyScreen(r, p, []int{4, 10, 24}[r.IntN(3)])
		w := model(p, s)
		lists := w.wideLists()
		met[kindOf(lists)]++
		wantFloat(t, p, s, w.float())
		wantLoose(t, p, s, w.loose()...)
		wantFalls(t, p, s, first(lists)...)
		g := anyGauge(r)
		lengths := w.lengths(s, g)
		wantLengths(t, p, s, g, lengths...)
		m := modelBundles(lengths, g)
		if len(m) > 8 {
			met["many"]++
			wantMany(t, p, s, g)
		} else {
			met["bundles"]++
			if got, e := weave.Bundles(p, s, g); !slices.Equal(got, m) || e != api.OK {
				t.Error(p, s, g, got, e, "not", m)
			}
		}
		if t.Failed() {
			t.FailNow()
		}
	}
	met.want(t, 100, "none", "one alone", "one of several", "some together", "many", "bundles")
}

// turnedBy is a pattern that begins some columns later.
func turnedBy(p api.Pattern, by int) api.Pattern {
	turned := api.Pattern{Wide: p.Wide}
	for i := range p.Over {
		row, column := i/p.Wide, i%p.Wide
		turned.Over = append(turned.Over, p.Over[row*p.Wide+(column+by)%p.Wide])
	}
	return turned
}

// turnedStrips are the numbers that strips have in a screen that begins some columns later.
func turnedStrips(s api.Screen, by int, list []int) []int {
	var turned []int
	for _, n := range list {
		if n < s.Columns {
			n = (n - by + s.Columns) % s.Columns
		}
		turned = append(turned, n)
	}
	slices.Sort(turned)
	return turned
}

// TestTurned begins to go round at each column (P8.5). Of several lists of strips that fall off, turning may make another one the first.
func TestTurned(t *testing.T) {
	r := chance(3)
	met := tally{}
	for range 2500 {
		p := anyPattern(r, 8, 8)
		s := round(p.Wide*among(r, 1, 24/p.Wide), among(r, 1, 24))
		by, g := r.IntN(s.Columns), anyGauge(r)
		float, _ := weave.Float(p, s)
		loose, _ := weave.Loose(p, s)
		lengths, _ := weave.Lengths(p, s, g)
		lists := model(p, s).wideLists()
		wantFalls(t, p, s, first(lists)...)
		for i := range lists {
			lists[i] = turnedStrips(s, by, lists[i])
		}
		slices.SortFunc(lists, inOrder)
		q := turnedBy(p, by)
		wantFloat(t, q, s, float)
		wantLoose(t, q, s, turnedStrips(s, by, loose)...)
		wantLengths(t, q, s, g, slices.Concat(lengths[by:s.Columns], lengths[:by], lengths[s.Columns:])...)
		wantFalls(t, q, s, first(lists)...)
		if t.Failed() {
			t.Fatal("turned by", by, "of", p)
		}
		if by%p.Wide > 0 {
			met[kindOf(lists)]++
		}
	}
	met.want(t, 100, "none", "one alone", "one of several", "some together")
}

// TestHangTogether looks for parts of what falls off that do so alone, and for other strips that lift off where none should (P8.6).
func TestHangTogether(t *testing.T) {
	r := chance(4)
	met := tally{}
	for range 1500 {
		p := anyPattern(r, 8, 8)
		s := anyScreen(r, p, []int{6, 24}[r.IntN(2)])
		w := model(p, s)
		falls, e := weave.Falls(p, s)
		if len(falls) > 0 && !w.liftsOff(falls) || e != api.OK {
			t.Fatal(p, s, falls, e)
		}
		some, kind := falls, "together"
		switch len(falls) {
		case 0:
			some, kind = numbers(0, s.Columns+s.Rows), "none"
		case 1:
			kind = "alone"
		}
		met[kind]++
		for range 20 {
			if part := anyPart(r, some); w.liftsOff(part) {
				t.Fatal(p, s, falls, part)
			}
		}
	}
	met.want(t, 50, "none", "alone", "together")
}

// anyPart is some of a list, but not all of it.
func anyPart(r *rand.Rand, list []int) []int {
	var part []int
	without := r.IntN(len(list))
	for i, n := range list {
		if i != without && r.IntN(4) > 0 {
			part = append(part, n)
		}
	}
	return part
}

// fromTheBack is a pattern in which over is under.
func fromTheBack(p api.Pattern) api.Pattern {
	back := api.Pattern{Wide: p.Wide}
	for _, over := range p.Over {
		back.Over = append(back.Over, !over)
	}
	return back
}

// TestFromTheBack has screens of which over is under (P8.7).
func TestFromTheBack(t *testing.T) {
	r := chance(5)
	for range 2500 {
		p := anyPattern(r, 8, 8)
		s := anyScreen(r, p, []int{4, 10, 24}[r.IntN(3)])
		g, back := anyGauge(r), fromTheBack(p)
		float, _ := weave.Float(p, s)
		loose, _ := weave.Loose(p, s)
		lengths, _ := weave.Lengths(p, s, g)
		wantFloat(t, back, s, float)
		wantLoose(t, back, s, loose...)
		wantLengths(t, back, s, g, lengths...)
		// What lies over lies under: all strips hang together from the front if they do from the back.
		front, _ := weave.Falls(p, s)
		if falls, e := weave.Falls(back, s); (len(falls) == 0) != (len(front) == 0) || e != api.OK {
			t.Error(front, falls, e)
		}
		if t.Failed() {
			t.Fatal(p, s)
		}
	}
}

// TestMadeOfSticks looks for a stick for each bundle, and for bundles for each strip (P8.8).
func TestMadeOfSticks(t *testing.T) {
	r := chance(6)
	met := tally{}
	for met["made"] < 1500 {
		p := anyPattern(r, 8, 8)
		s, g := anyScreen(r, p, []int{4, 10, 24}[r.IntN(3)]), anyGauge(r)
		m, e := weave.Bundles(p, s, g)
		l := anySticks(r, m)
		plan, cost, f := weave.Made(p, s, g, l)
		if e != f || e != api.OK && e != api.ErrMany {
			t.Fatal(p, s, g, e, f)
		}
		if e != api.OK {
			continue
		}
		met["made"]++
		wantEnough(t, p, s, g, m)
		wantPlan(t, m, l, plan, cost, met)
		if least, n, e := stock.Least(l, m); !slices.Equal(plan, least) || cost != n || e != api.OK {
			t.Error(l, m, plan, cost, "not", least, n, e)
		}
		if t.Failed() {
			t.FailNow()
		}
	}
	met.want(t, 300, "cut", "bought")
}

// wantEnough looks for as many strips of each length as the screen has, or more, but less than Split more.
func wantEnough(t *testing.T, p api.Pattern, s api.Screen, g api.Gauge, m []api.Member) {
	t.Helper()
	lengths, _ := weave.Lengths(p, s, g)
	more := map[int]int{}
	for _, x := range m {
		more[x.Length] += g.Split
	}
	for _, length := range lengths {
		more[length]--
	}
	for length, n := range more {
		if n < 0 || n >= g.Split {
			t.Error(p, s, g, m, "has", n, "more of", length)
		}
	}
}

// wantPlan looks for a stick for each member, none for two, and for what all of it costs.
func wantPlan(t *testing.T, m []api.Member, l []api.Stick, plan []int, cost int, met tally) {
	t.Helper()
	if len(plan) != len(m) {
		t.Fatal(m, plan)
	}
	for i, choice := range plan {
		if choice == api.Bought {
			met["bought"]++
			cost -= m[i].Buy
			continue
		}
		met["cut"]++
		cost -= l[choice].Length - m[i].Length
		if slices.Contains(plan[:i], choice) || l[choice].Length < m[i].Length || l[choice].Grade < m[i].Grade {
			t.Error(m, l, plan)
		}
	}
	if cost != 0 {
		t.Error(m, l, plan, "costs", cost, "less")
	}
}

// TestByTurns has patterns in which each strip passes over and under by turns (P8.9). Where each strip has two crossings nothing falls off; a strip with a single one cannot pass both over and under.
func TestByTurns(t *testing.T) {
	// All of these are plain: also those of odd numbers, if they do not come again.
	long := pattern("ououou", "uououo", "ououou", "uououo")
	odd := pattern("ouououo", "uououou", "ouououo", "uououou", "ouououo")
	for columns := 1; columns <= 24; columns++ {
		for rows := 1; rows <= 24; rows++ {
			for _, p := range []api.Pattern{plain(), pattern("uo", "ou"), long} {
				wantByTurns(t, p, flat(columns, rows))
				if columns%p.Wide == 0 {
					wantByTurns(t, p, round(columns, rows))
				}
			}
			if columns <= 7 && rows <= 5 {
				wantByTurns(t, odd, flat(columns, rows))
			}
		}
	}
}

func wantByTurns(t *testing.T, p api.Pattern, s api.Screen) {
	t.Helper()
	wantFloat(t, p, s, 1)
	if s.Columns > 1 && s.Rows > 1 {
		wantLoose(t, p, s)
		wantFalls(t, p, s)
	} else {
		wantFalls(t, p, s, first(model(p, s).wideLists())...)
	}
}

// TestFloatIsAtLeastOne has all small patterns and screens (P8.9).
func TestFloatIsAtLeastOne(t *testing.T) {
	for over := range 1 << 4 {
		for _, wide := range []int{1, 2, 4} {
			p := api.Pattern{Wide: wide, Over: []bool{over&1 > 0, over&2 > 0, over&4 > 0, over&8 > 0}}
			for columns := 1; columns <= 5; columns++ {
				for rows := 1; rows <= 4; rows++ {
					s := api.Screen{Columns: columns, Rows: rows, Round: columns%wide == 0}
					n, e := weave.Float(p, s)
					if e != api.OK || n < 1 || n > max(columns, rows) || n != model(p, s).float() {
						t.Error(p, s, n, e)
					}
				}
			}
		}
	}
}
