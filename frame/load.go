package frame

import (
	"iter"

	"canebrake/api"
)

// none stands for no knot, and for no pole.
const none = -1

// part is a section of a pole. No two props have the same one.
type part struct{ pole, section int }

func partOf(p api.Prop) part { return part{p.Pole, p.Section} }

// frame is a frame at work: which poles are out, and the strengths of the sections of its props, where these are asked for.
type frame struct {
	api.Frame
	out       map[int]bool
	strengths map[part]api.Span
}

// load is what a prop bears, which is named by its index.
type load struct{ prop, bears int }

// burden is what a knot bears, and what each prop that stands with it as From bears of this.
type burden struct {
	bears int
	loads []load
}

// falls tells whether nothing carries what a knot bears.
func (b burden) falls() bool { return b.bears > 0 && len(b.loads) == 0 }

// burden is that of a knot by what it bears.
func (f frame) burden(knot, bears int) burden {
	b := burden{bears: bears}
	shares := 0
	for i, p := range f.Props {
		if p.From == knot && !f.out[p.Pole] {
			b.loads = append(b.loads, load{prop: i})
			shares += p.Share
		}
	}
	for i, l := range b.loads {
		b.loads[i].bears = roundedUp(bears*f.Props[l.prop].Share, shares)
	}
	return b
}

func roundedUp(n, by int) int { return (n + by - 1) / by }

// down yields the knots, each with its burden, in their order: loads go to later knots only, so that all that a knot bears has come when it is its turn.
func (f frame) down(x end) iter.Seq2[int, burden] {
	return func(yield func(int, burden) bool) {
		var handed [api.MaxKnots]int
		for knot := range len(f.Knots) {
			b := f.burden(knot, x.puts(f.Knots[knot])+handed[knot])
			if !yield(knot, b) {
				return
			}
			for _, l := range b.loads {
				if to := f.Props[l.prop].To; to != api.Ground {
					handed[to] += l.bears
				}
			}
		}
	}
}

// loadsAt is what each prop bears at an end, 0 if it is gone.
func (f frame) loadsAt(x end) []int {
	bears := make([]int, len(f.Props))
	for _, b := range f.down(x) {
		for _, l := range b.loads {
			bears[l.prop] = l.bears
		}
	}
	return bears
}

// loads is between which loads each prop bears.
func (f frame) loads() []api.Span {
	light, heavy := f.loadsAt(ends()[best]), f.loadsAt(ends()[worst])
	loads := make([]api.Span, len(f.Props))
	for i := range loads {
		loads[i] = api.Span{Lo: light[i], Hi: heavy[i]}
	}
	return loads
}
