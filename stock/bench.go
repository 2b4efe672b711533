package stock

import (
	"iter"

	"canebrake/api"
)

// stick is a stick at work, which knows by which index it is named.
type stick struct {
	api.Stick
	name int
}

// waste is by how much a stick is longer than a member.
func (s stick) waste(m member) int { return s.Length - m.Length }

// member is a member at work.
type member struct{ api.Member }

// takes tells whether a stick is good for a member.
func (m member) takes(s stick) bool { return s.Length >= m.Length && s.Grade >= m.Grade }

// bench is where sticks and members are laid out, with the costs that were found.
type bench struct {
	sticks  []stick
	members []member
	found   map[rest]int
}

func laid(l []api.Stick, m []api.Member) bench {
	b := bench{found: map[rest]int{}}
	for i, s := range l {
		b.sticks = append(b.sticks, stick{s, i})
	}
	for _, x := range m {
		b.members = append(b.members, member{x})
	}
	return b
}

// those are the things of a list of which something is so.
func those[T any](list []T, so func(T) bool) []T {
	var found []T
	for _, x := range list {
		if so(x) {
			found = append(found, x)
		}
	}
	return found
}

// choices yields what a plan may tell for a member, the least number first, and what this costs.
func (b bench) choices(m member) iter.Seq2[int, int] {
	return func(yield func(choice, cost int) bool) {
		if !yield(api.Bought, m.Buy) {
			return
		}
		for _, s := range those(b.sticks, m.takes) {
			if !yield(s.name, s.waste(m)) {
				return
			}
		}
	}
}

// Why no plan costs less than the bound: what a plan tells for a member, with the price of its stick, is no less than the least of what may be told for it; and as no stick is used twice, all of this together is no more than what the plan costs, and all prices. That the prices that are told reach the least cost is a theorem of plans that give one stick to one member: by how much more it costs without a stick is the greatest price of it that can prove the least cost, and these greatest prices prove it together.

// bound is the bound by prices.
func (b bench) bound(prices []int) int {
	bound := 0
	for _, m := range b.members {
		var asked []int
		for _, s := range those(b.sticks, m.takes) {
			asked = append(asked, s.waste(m)+prices[s.name])
		}
		bound += least(m.Buy, asked...)
	}
	for _, price := range prices {
		bound -= price
	}
	return bound
}

func least(first int, others ...int) int {
	for _, n := range others {
		first = min(first, n)
	}
	return first
}
