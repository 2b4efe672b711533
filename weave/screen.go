package weave

import (
	"iter"

	"canebrake/api"
)

// screen is a screen at work, with the pattern by which it is woven.
type screen struct {
	api.Screen
	pattern api.Pattern
}

// uprightOver tells whether an upright strip passes over a level one, which is counted from 0 on.
func (s screen) uprightOver(column, row int) bool {
	p := s.pattern
	rows := len(p.Over) / p.Wide
	return p.Over[row%rows*p.Wide+column%p.Wide]
}

// strip is an upright strip, or a level one.
type strip interface {
	// crossings yields which strip is crossed, one after the other, and whether this one passes over it.
	crossings() iter.Seq2[int, bool]
	goesRound() bool
}

type upright struct {
	screen
	column int
}

func (u upright) crossings() iter.Seq2[int, bool] {
	return func(yield func(other int, over bool) bool) {
		for row := range u.Rows {
			if !yield(u.Columns+row, u.uprightOver(u.column, row)) {
				return
			}
		}
	}
}

func (u upright) goesRound() bool { return false }

type level struct {
	screen
	row int
}

func (l level) crossings() iter.Seq2[int, bool] {
	return func(yield func(other int, over bool) bool) {
		for column := range l.Columns {
			if !yield(column, !l.uprightOver(column, l.row)) {
				return
			}
		}
	}
}

func (l level) goesRound() bool { return l.Round }

// strips are all strips, each at the index by which it is numbered.
func (s screen) strips() []strip {
	var strips []strip
	for column := range s.Columns {
		strips = append(strips, upright{s, column})
	}
	for row := range s.Rows {
		strips = append(strips, level{s, row})
	}
	return strips
}

// those are the numbers of the strips of which something is so, as it is told of each by a list.
func those[T any](list []T, so func(T) bool) []int {
	var numbers []int
	for n, x := range list {
		if so(x) {
			numbers = append(numbers, n)
		}
	}
	return numbers
}
