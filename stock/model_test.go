package stock_test

import (
	"math"
	"math/rand/v2"
	"slices"

	"canebrake/api"
)

// The model of these tests saws millimetre by millimetre, and goes through all plans: it is slow, and shares nothing with the package.

// sawn is what becomes of the millimetres of a trunk: those of its sticks, those that the saw takes, and those that are dropped.
type sawn struct {
	sticks        []api.Stick
	took, dropped int
}

// modelSaw saws a trunk that has an index.
func modelSaw(i int, t api.Trunk, saw int) sawn {
	var s sawn
	length, left := 0, 0
	for at := range t.Length + 1 {
		if at == t.Length || slices.Contains(t.Bends, at) {
			if length >= 100 {
				s.sticks = append(s.sticks, of(i, length, t.Grade))
			} else {
				s.dropped += length
			}
			length, left = 0, saw
		}
		if at == t.Length {
			break
		}
		if left > 0 {
			left--
			s.took++
		} else {
			length++
		}
	}
	return s
}

// modelCost is what a plan costs, and whether it is one.
func modelCost(l []api.Stick, m []api.Member, plan []int) (cost int, ok bool) {
	for i, choice := range plan {
		if choice == -1 {
			cost += m[i].Buy
			continue
		}
		if slices.Contains(plan[:i], choice) || l[choice].Length < m[i].Length || l[choice].Grade < m[i].Grade {
			return 0, false
		}
		cost += l[choice].Length - m[i].Length
	}
	return cost, true
}

// allPlans are the plans for sticks and members, in the order of their numbers.
func allPlans(l []api.Stick, m []api.Member) [][]int {
	lists := [][]int{{}}
	for i := range m {
		var longer [][]int
		for _, list := range lists {
			for choice := -1; choice < len(l); choice++ {
				plan := append(slices.Clone(list), choice)
				if _, ok := modelCost(l, m[:i+1], plan); ok {
					longer = append(longer, plan)
				}
			}
		}
		lists = longer
	}
	return lists
}

// modelLeast is the first plan that costs least, what it costs, and how many plans cost the same.
func modelLeast(l []api.Stick, m []api.Member) (least []int, cost, number int) {
	cost = math.MaxInt
	for _, plan := range allPlans(l, m) {
		switch n, _ := modelCost(l, m, plan); {
		case n < cost:
			least, cost, number = plan, n, 1
		case n == cost:
			number++
		}
	}
	return least, cost, number
}

// wideLeast is the first plan that costs least, and what it costs, also for as many sticks and members as there may be: what is left is known by the member that is next, and by the sticks that are used. (Weights of the choices, which are less than one unit of costs together, make the first one the only one.)
func wideLeast(l []api.Stick, m []api.Member) (plan []int, cost int) {
	const unit = 1 << 40
	weight := func(i, choice int) int { return (choice + 1) << (5 * (7 - i)) }
	seen := make([]int, 8<<16)
	var left func(i, used int) int
	choices := func(i, used int) (choice, cost int) {
		best, least := -1, m[i].Buy*unit+left(i+1, used)
		for j, s := range l {
			if used>>j&1 == 0 && s.Length >= m[i].Length && s.Grade >= m[i].Grade {
				if n := (s.Length-m[i].Length)*unit + weight(i, j) + left(i+1, used|1<<j); n < least {
					best, least = j, n
				}
			}
		}
		return best, least
	}
	left = func(i, used int) int {
		if i == len(m) {
			return 0
		}
		at := i<<16 | used
		if seen[at] == 0 {
			_, n := choices(i, used)
			seen[at] = n + 1
		}
		return seen[at] - 1
	}
	cost, used := left(0, 0)/unit, 0
	for i := range m {
		choice, _ := choices(i, used)
		plan = append(plan, choice)
		if choice >= 0 {
			used |= 1 << choice
		}
	}
	return plan, cost
}

// without is a list with a thing less.
func without[T any](list []T, at int) []T { return slices.Delete(slices.Clone(list), at, at+1) }

// modelPrices are the prices by a way to tell what costs least.
func modelPrices(l []api.Stick, least func(l []api.Stick) int) []int {
	var prices []int
	for i := range l {
		prices = append(prices, least(without(l, i))-least(l))
	}
	return prices
}

// modelBound is the bound by prices, in which each member is bought, or takes a stick that is as cheap with its price.
func modelBound(l []api.Stick, m []api.Member, prices []int) int {
	bound := 0
	for i := range m {
		pays := []int{m[i].Buy}
		for j := range l {
			if n, ok := modelCost(l, m[i:i+1], []int{j}); ok {
				pays = append(pays, n+prices[j])
			}
		}
		bound += slices.Min(pays)
	}
	for _, price := range prices {
		bound -= price
	}
	return bound
}

// chance draws the same numbers each time.
func chance(seed uint64) *rand.Rand { return rand.New(rand.NewPCG(seed, 7)) }

// among is a number from lo to hi.
func among(r *rand.Rand, lo, hi int) int { return lo + r.IntN(hi-lo+1) }

// anyTrunks have bends that are near to each other, or far away.
func anyTrunks(r *rand.Rand) []api.Trunk {
	var l []api.Trunk
	long := []int{100, 200, 700, 5000}[r.IntN(4)]
	for range r.IntN(7) {
		x := trunk(among(r, max(100, long/4), long), r.IntN(4))
		near := []int{2, 60, 300, 1500}[r.IntN(4)]
		for at := among(r, 1, near); len(x.Bends) < 4 && at < x.Length; at += among(r, 1, near) {
			x.Bends = append(x.Bends, at)
		}
		l = append(l, x)
	}
	return l
}

// anyBench is up to so many sticks and members, about as long as each other, of few lengths or of many; members cost nothing to buy, about what is wasted, or far more.
func anyBench(r *rand.Rand, sticks, members int) ([]api.Stick, []api.Member) {
	var l []api.Stick
	var m []api.Member
	wide := []int{2, 10, 300, 15000}[r.IntN(4)]
	dear := []int{2, wide, 2 * wide, 1000000}[r.IntN(4)]
	grades := r.IntN(4)
	for range r.IntN(sticks + 1) {
		l = append(l, of(r.IntN(6), among(r, 110, 110+wide), r.IntN(grades+1)))
	}
	for range r.IntN(members + 1) {
		m = append(m, member(among(r, 110-min(wide, 50), 110+wide), r.IntN(grades+1), r.IntN(dear+1)))
	}
	return l, m
}

// anyPrices are of few numbers, or of many.
func anyPrices(r *rand.Rand, number int) []int {
	prices := []int{}
	most := []int{0, 2, 100, 1000000}[r.IntN(4)]
	for range number {
		prices = append(prices, r.IntN(most+1))
	}
	return prices
}
