package frame

import (
	"iter"
	"slices"

	"canebrake/api"
)

// Why two ends are enough: with more on a knot nothing bears less, and what falls or breaks by a load does so by a greater one. There is a truth in which all is at its worst at once: the most is put on all knots, and all joints and sections hold the least. If a frame stands in this one, it does in every truth. And there is one in which all is at its best at once: if a frame does not stand in this one, it does in none. (That all sections have their least strengths at once, and all of them their greatest ones, is told in grade's stress.go.)

// end is what a truth is at one of its ends: which number of a span is put on a knot, and which one a section or a joint holds; and what is known of a frame that stands there.
type end struct {
	known       uint8
	puts, holds func(api.Span) int
}

// worst and best are the indexes of the ends.
const (
	worst = 0
	best  = 1
)

func ends() [2]end {
	return [2]end{
		worst: {known: api.KnownYes, puts: hi, holds: lo},
		best:  {known: api.KnownOpen, puts: lo, holds: hi},
	}
}

func lo(s api.Span) int { return s.Lo }
func hi(s api.Span) int { return s.Hi }

// fall is what is passed on when a knot falls, or a prop that stands with it as From breaks.
type fall struct{ knot int }

// fallIn is the knot of a fall that something passes on, none if it passes on nothing. Whatever else were passed on would leave the knot 0: where the program is at fault no frame is told to stand.
func fallIn(something func()) (knot int) {
	defer func() {
		if what, ok := recover().(fall); ok {
			knot = what.knot
		}
	}()
	something()
	return none
}

// firstFall is the first knot that falls with the most on all knots.
func (f frame) firstFall() int {
	return fallIn(func() {
		for knot, b := range f.down(ends()[worst]) {
			b.carried(knot)
		}
	})
}

// standsAt tells whether a frame stands at an end.
func (f frame) standsAt(x end) bool {
	knot := fallIn(func() {
		for knot, b := range f.down(x) {
			b.carried(knot)
			f.held(knot, b, x)
		}
	})
	return knot == none
}

// carried passes on a fall if nothing carries what a knot bears.
func (b burden) carried(knot int) {
	if b.falls() {
		panic(fall{knot})
	}
}

// held passes on a fall if a prop bears more than it holds.
func (f frame) held(knot int, b burden, x end) {
	for _, l := range b.loads {
		if l.bears > f.holds(f.Props[l.prop], x) {
			panic(fall{knot})
		}
	}
}

// holds is how much a prop bears at most, by its section and its joint.
func (f frame) holds(p api.Prop, x end) int {
	return least(x.holds(f.strengths[partOf(p)]), x.holds(f.Holds[jointAt(p.Joint)]))
}

func least(first int, others ...int) int {
	for _, n := range others {
		first = min(first, n)
	}
	return first
}

// known is whether a frame stands: what stands at the worst end does so in every truth.
func (f frame) known() uint8 {
	for _, x := range ends() {
		if f.standsAt(x) {
			return x.known
		}
	}
	return api.KnownNo
}

// turns yields the poles that have props, by increasing Ids, each with what is known while it is out.
func (f frame) turns() iter.Seq2[int, uint8] {
	return func(yield func(int, uint8) bool) {
		for _, p := range f.Sheet.Poles {
			if !f.hasProps(p.Id) {
				continue
			}
			f.out[p.Id] = true
			known := f.known()
			delete(f.out, p.Id)
			if !yield(p.Id, known) {
				return
			}
		}
	}
}

func (f frame) hasProps(pole int) bool {
	return slices.ContainsFunc(f.Props, func(p api.Prop) bool { return p.Pole == pole })
}

// accept is the least of what is known, and with which pole taken out it is so first, none if it is with none.
func (f frame) accept() (known uint8, pole int) {
	known, pole = f.known(), none
	for turn, left := range f.turns() {
		if left < known {
			known, pole = left, turn
		}
	}
	return known, pole
}

func (f frame) accepted() bool {
	known, _ := f.accept()
	return known == api.KnownYes
}

// raised is a frame with more on a knot. The knots are copied, as they are the caller's.
func (f frame) raised(knot, by int) frame {
	f.Knots = slices.Clone(f.Knots)
	f.Knots[knot].Hi += by
	return f
}

// most is how much more may be put on a knot of a frame that is accepted.
func (f frame) most(knot int) int {
	return greatest(api.MaxForce-f.Knots[knot].Hi, func(by int) bool { return f.raised(knot, by).accepted() })
}

// greatest is the greatest number up to one of which something is so. It has to be so of 0, and of each number that is less than one of which it is so.
func greatest[N ~int](most N, so func(N) bool) N {
	found := N(0)
	for found < most {
		middle := most - (most-found)/2
		if so(middle) {
			found = middle
		} else {
			most = middle - 1
		}
	}
	return found
}
