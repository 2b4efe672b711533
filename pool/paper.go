package pool

import (
	"maps"
	"slices"

	"canebrake/api"
	"canebrake/grade"
)

// kind is which numbers papers of a kind may have, and what is known of one that tells such a number of the pole at an index.
type kind struct {
	numbers api.Span
	known   func(b books, at, n int) uint8
}

// kinds are all kinds of papers, each at the index by which it is numbered.
func kinds() [api.PaperBears + 1]kind {
	return [...]kind{
		api.PaperTreated: {upTo(0), books.treated},
		api.PaperGrade:   {upTo(api.MaxGrades), books.graded},
		api.PaperOrigin:  {upTo(api.MaxId), books.grown},
		api.PaperBears:   {fromOne(api.MaxForce), books.bears},
	}
}

// books are what is known of the poles of a sheet: whether each one is traced, and fit.
type books struct {
	api.Sheet
	api.Grading
	trace, fit []uint8
}

func (b books) treated(at, _ int) uint8 { return b.fit[at] }

func (b books) graded(at, n int) uint8 {
	is, _ := grade.Grade(b.Sheet, b.Grading, b.Poles[at].Id)
	if is < n {
		return api.KnownNo
	}
	return api.KnownYes
}

func (b books) grown(at, n int) uint8 {
	if b.Poles[at].Clone != n {
		return api.KnownNo
	}
	return b.trace[at]
}

func (b books) bears(at, n int) uint8 {
	foot, e := grade.Strength(b.Sheet, b.Grading, b.Poles[at].Id, 0)
	switch {
	case e != api.OK || foot.Hi < n:
		return api.KnownNo
	case foot.Lo < n:
		return api.KnownOpen
	}
	return api.KnownYes
}

// judge is what is known of each paper.
func (b books) judge(papers []api.Paper) []uint8 {
	all := kinds()
	known := make([]uint8, len(papers))
	for i, p := range papers {
		known[i] = all[p.Kind].known(b, poleAt(b.Poles, p.Pole), p.N)
	}
	return known
}

// sold are the Ids of the poles that may be sold abroad by what is known of papers: a single one that is not so for sure is enough that a pole may not.
func sold(papers []api.Paper, known []uint8) []int {
	may := map[int]bool{}
	for _, p := range papers {
		if p.Kind == api.PaperTreated {
			may[p.Pole] = true
		}
	}
	for i, p := range papers {
		if known[i] != api.KnownYes {
			delete(may, p.Pole)
		}
	}
	return slices.Sorted(maps.Keys(may))
}
