package stock_test

import (
	"math/rand/v2"
	"slices"
	"testing"

	"canebrake/api"
	"canebrake/stock"
)

// TestSawModel holds the sticks of trunks against the model, and looks for what is lost of a trunk (P7.1, P7.8).
func TestSawModel(t *testing.T) {
	r := chance(1)
	var many, took, dropped, less int
	for range 4000 {
		l := anyTrunks(r)
		saw := []int{0, 1, 50, r.IntN(51)}[r.IntN(4)]
		var want []api.Stick
		var all []sawn
		for i, x := range l {
			s := modelSaw(i, x, saw)
			want = append(want, s.sticks...)
			all = append(all, s)
			took, dropped = took+min(s.took, 1), dropped+min(s.dropped, 1)
			if s.took < saw*len(x.Bends) {
				less++
			}
		}
		if len(want) > 16 {
			wantSawError(t, l, saw, api.ErrSticks)
			many++
			continue
		}
		wantSaw(t, l, saw, want...)
		got, _ := stock.Saw(l, saw)
		for i, x := range l {
			if n := lengthOf(got, i) + all[i].took + all[i].dropped; n != x.Length {
				t.Error(x, saw, got, "are", n)
			}
		}
		if t.Failed() {
			t.FailNow()
		}
	}
	if min(many, took, dropped, less) < 50 {
		t.Error("one kind of answer was hardly met", many, took, dropped, less)
	}
}

// lengthOf is how long the sticks of a trunk are together.
func lengthOf(l []api.Stick, trunk int) int {
	length := 0
	for _, s := range l {
		if s.Trunk == trunk {
			length += s.Length
		}
	}
	return length
}

// TestNothingIsLost has a saw that takes nothing, and trunks of which nothing is too short: the sticks are the whole trunk, less what the saw takes (P7.8).
func TestNothingIsLost(t *testing.T) {
	r := chance(2)
	for range 1000 {
		x := trunk(0, r.IntN(4))
		saw := r.IntN(51)
		for range r.IntN(5) {
			x.Length += among(r, 150, 3000)
			x.Bends = append(x.Bends, x.Length)
		}
		x.Length += among(r, 150, 3000)
		l, e := stock.Saw([]api.Trunk{x}, saw)
		if e != api.OK || len(l) != len(x.Bends)+1 || lengthOf(l, 0) != x.Length-saw*len(x.Bends) {
			t.Fatal(x, saw, l, e)
		}
	}
}

// TestModel holds all that is told of sticks and members against the model, which goes through all plans (P7.2 to P7.6).
func TestModel(t *testing.T) {
	r := chance(3)
	var alone, several, bought, cut, free, dear int
	for range 3000 {
		l, m := anyBench(r, 5, 4)
		plan, cost, number := modelLeast(l, m)
		wantLeast(t, l, m, cost, plan...)
		prices := modelPrices(l, func(l []api.Stick) int {
			_, cost, _ := modelLeast(l, m)
			return cost
		})
		wantPrices(t, l, m, prices...)
		wantBound(t, l, m, cost, prices...)
		others := anyPrices(r, len(l))
		wantBound(t, l, m, modelBound(l, m, others), others...)
		if t.Failed() {
			t.FailNow()
		}
		if number > 1 {
			several++
		} else {
			alone++
		}
		for _, choice := range plan {
			bought, cut = bought+max(0, -choice), cut+min(choice+1, 1)
		}
		for _, price := range prices {
			free, dear = free+1-min(price, 1), dear+min(price, 1)
		}
	}
	if min(alone, several, bought, cut, free, dear) < 300 {
		t.Error("one kind of answer was hardly met", alone, several, bought, cut, free, dear)
	}
}

// TestWide has up to as many sticks and members as there may be (P7.2 to P7.6).
func TestWide(t *testing.T) {
	r := chance(4)
	var eight, mixed int
	for range 60 {
		l, m := anyBench(r, 16, 8)
		plan, cost := wideLeast(l, m)
		wantLeast(t, l, m, cost, plan...)
		prices := modelPrices(l, func(l []api.Stick) int {
			_, cost := wideLeast(l, m)
			return cost
		})
		wantPrices(t, l, m, prices...)
		wantBound(t, l, m, cost, prices...)
		if t.Failed() {
			t.FailNow()
		}
		if len(m) == 8 && len(l) >= 8 {
			eight++
		}
		if slices.Contains(plan, -1) && slices.Max(plan) >= 0 {
			mixed++
		}
	}
	if min(eight, mixed) < 2 {
		t.Error("one kind of answer was hardly met", eight, mixed)
	}
}

// anyPlan is one of the plans, also one that nobody would make.
func anyPlan(r *rand.Rand, l []api.Stick, m []api.Member) []int {
	plan := slices.Repeat([]int{-1}, len(m))
	for _, i := range r.Perm(len(m)) {
		plan[i] = r.IntN(len(l)+1) - 1
		if _, ok := modelCost(l, m, plan); !ok {
			plan[i] = -1
		}
	}
	return plan
}

// TestNoPlanCostsLess draws plans and prices: no plan costs less than the least one, nor less than a bound, and the prices that are told prove it (P7.5, P7.6).
func TestNoPlanCostsLess(t *testing.T) {
	r := chance(5)
	var more, same, below, reached int
	for range 400 {
		l, m := anyBench(r, 16, 8)
		least, cost, _ := stock.Least(l, m)
		if n, ok := modelCost(l, m, least); !ok || n != cost || len(least) != len(m) {
			t.Fatal(l, m, least, "costs", n, ok, "not", cost)
		}
		for range 50 {
			plan := anyPlan(r, l, m)
			n, ok := modelCost(l, m, plan)
			if !ok || n < cost {
				t.Fatal(l, m, plan, "costs", n, ok, "less than", least, cost)
			}
			if n > cost {
				more++
			} else {
				same++
			}
		}
		told, _ := stock.Prices(l, m)
		wantBound(t, l, m, cost, told...)
		for range 10 {
			prices := anyPrices(r, len(l))
			n, e := stock.Bound(l, m, prices)
			if n > cost || e != api.OK {
				t.Fatal(l, m, prices, "bound", n, e, "above", cost)
			}
			if n < cost {
				below++
			} else {
				reached++
			}
		}
		if t.Failed() {
			t.FailNow()
		}
	}
	if min(more, same, below, reached) < 300 {
		t.Error("one kind of answer was hardly met", more, same, below, reached)
	}
}

func costOf(t *testing.T, l []api.Stick, m []api.Member) int {
	t.Helper()
	_, cost, e := stock.Least(l, m)
	if e != api.OK {
		t.Fatal(l, m, e)
	}
	return cost
}

// TestMoreSticks has a stick more, and a member more, at any place (P7.7).
func TestMoreSticks(t *testing.T) {
	r := chance(6)
	var cheaper, dearer, same int
	for range 1000 {
		l, m := anyBench(r, 15, 7)
		cost := costOf(t, l, m)
		stick := of(r.IntN(6), among(r, 100, 500), r.IntN(4))
		by := cost - costOf(t, slices.Insert(slices.Clone(l), r.IntN(len(l)+1), stick), m)
		if by < 0 {
			t.Fatal(l, m, stick, "makes it cost more by", -by)
		}
		x := member(among(r, 1, 400), r.IntN(4), r.IntN(1000))
		more := costOf(t, l, slices.Insert(slices.Clone(m), r.IntN(len(m)+1), x)) - cost
		if more < 0 {
			t.Fatal(l, m, x, "makes it cost less by", -more)
		}
		cheaper, dearer = cheaper+min(by, 1), dearer+min(more, 1)
		if by == 0 {
			same++
		}
	}
	if min(cheaper, dearer, same) < 100 {
		t.Error("one kind of answer was hardly met", cheaper, dearer, same)
	}
}

// goodFor are the members that a stick is good for, as a plan for each of them alone tells.
func goodFor(t *testing.T, s api.Stick, m []api.Member) []int {
	t.Helper()
	var good []int
	for i, x := range m {
		x.Buy = api.MaxBuy
		if plan, _, e := stock.Least([]api.Stick{s}, []api.Member{x}); e != api.OK || len(plan) != 1 {
			t.Fatal(s, x, plan, e)
		} else if plan[0] == 0 {
			good = append(good, i)
		}
	}
	return good
}

// TestBetterSticks has sticks that are longer, or of a better grade (P7.7).
func TestBetterSticks(t *testing.T) {
	r := chance(7)
	var more, same int
	for range 2000 {
		l, m := anyBench(r, 1, 8)
		if len(l) == 0 {
			continue
		}
		s := l[0]
		before := goodFor(t, s, m)
		if s.Length = min(20000, s.Length+r.IntN(40)); r.IntN(2) == 0 {
			s.Grade = among(r, s.Grade, 3)
		}
		after := goodFor(t, s, m)
		for _, i := range before {
			if !slices.Contains(after, i) {
				t.Fatal(l[0], s, m[i])
			}
		}
		if len(after) > len(before) {
			more++
		} else {
			same++
		}
	}
	if min(more, same) < 100 {
		t.Error("one kind of answer was hardly met", more, same)
	}
}
