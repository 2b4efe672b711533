package stock

import "canebrake/api"

// rest is what a plan that is begun leaves: the members from one on, without the sticks that are used.
type rest struct {
	from int
	used [api.MaxSticks]bool
}

// without is a rest with a stick less.
func (r rest) without(stick int) rest {
	r.used[stick] = true
	return r
}

// after is what the beginning of a plan leaves.
func after(plan []int) rest {
	r := rest{from: len(plan)}
	for _, choice := range plan {
		if choice != api.Bought {
			r = r.without(choice)
		}
	}
	return r
}

// plan is the first one of the plans that cost least. Choices are tried from the least number on, and a beginning is left if all plans that begin so cost more.
func (b bench) plan() []int {
	most := b.cost(rest{})
	var plan []int
	var look func(spent int) bool
	look = func(spent int) bool {
		if spent+b.cost(after(plan)) > most {
			return false
		}
		if len(plan) == len(b.members) {
			return true
		}
	choices:
		for choice, cost := range b.choices(b.members[len(plan)]) {
			for _, used := range plan {
				if used == choice && choice != api.Bought {
					continue choices
				}
			}
			plan = append(plan, choice)
			if look(spent + cost) {
				return true
			}
			plan = plan[:len(plan)-1]
		}
		return false
	}
	look(0)
	return plan
}

// cost is what the least plan for a rest costs.
func (b bench) cost(r rest) int {
	cost, known := b.found[r]
	if !known {
		cost = b.reckoned(r)
		b.found[r] = cost
	}
	return cost
}

// costs are the least costs of sets of members: the bit i of a set tells whether the member i is one of it.
type costs [1 << api.MaxMembers]int

// reckoned is what the least plan for a rest costs, one stick after the other.
func (b bench) reckoned(r rest) int {
	members := b.members[r.from:]
	c := bought(members)
	for _, s := range b.sticks {
		if !r.used[s.name] {
			c = c.with(s, members)
		}
	}
	return c[1<<len(members)-1]
}

// bought is what sets of members cost if all of them are bought.
func bought(members []member) costs {
	var c costs
	for set := range 1 << len(members) {
		for i, m := range members {
			if has(set, i) {
				c[set] += m.Buy
			}
		}
	}
	return c
}

// with is what sets of members cost with a stick more, which is used for one of them that takes it, or for none.
func (c costs) with(s stick, members []member) costs {
	more := c
	for set := range 1 << len(members) {
		for i, m := range members {
			if has(set, i) && m.takes(s) {
				more[set] = least(more[set], c[set-1<<i]+s.waste(m))
			}
		}
	}
	return more
}

// has tells whether a set of members has one.
func has(set, member int) bool { return set&(1<<member) != 0 }
