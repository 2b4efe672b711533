package weave_test

import (
	"cmp"
	"math/rand/v2"
	"slices"

	"canebrake/api"
)

// The model of these tests tells of each two strips which one passes over, and goes through all sets of strips: it is slow, and shares nothing with the package.

// woven is a screen in which for each strip all crossings along it are told, and whether the last one and the first one are neighbours.
type woven struct {
	strips [][]crossing
	closed []bool
}

// crossing is which strip is crossed, and whether the other one passes over it.
type crossing struct {
	other int
	over  bool
}

// model weaves a screen.
func model(p api.Pattern, s api.Screen) woven {
	w := woven{make([][]crossing, s.Columns+s.Rows), make([]bool, s.Columns+s.Rows)}
	for r := range s.Rows {
		for c := range s.Columns {
			row, column := r, c
			for row*p.Wide >= len(p.Over) {
				row -= len(p.Over) / p.Wide
			}
			for column >= p.Wide {
				column -= p.Wide
			}
			over := p.Over[row*p.Wide+column]
			level := s.Columns + r
			w.strips[c] = append(w.strips[c], crossing{level, over})
			w.strips[level] = append(w.strips[level], crossing{c, !over})
			w.closed[level] = s.Round && s.Columns > 1
		}
	}
	return w
}

// neighbours are all pairs of neighbours along a strip. Two columns that go round are neighbours twice.
func (w woven) neighbours(strip int) [][2]int {
	var pairs [][2]int
	for i := range len(w.strips[strip]) - 1 {
		pairs = append(pairs, [2]int{i, i + 1})
	}
	if w.closed[strip] {
		pairs = append(pairs, [2]int{len(w.strips[strip]) - 1, 0})
	}
	return pairs
}

// float is how many crossings the longest float has: from each crossing on it goes as far as it can.
func (w woven) float() int {
	longest := 0
	for strip, crossings := range w.strips {
		pairs := w.neighbours(strip)
		for from := range crossings {
			seen := []int{from}
			for {
				at := seen[len(seen)-1]
				i := slices.IndexFunc(pairs, func(pair [2]int) bool { return pair[0] == at })
				if i < 0 || slices.Contains(seen, pairs[i][1]) || crossings[pairs[i][1]].over != crossings[from].over {
					break
				}
				seen = append(seen, pairs[i][1])
			}
			longest = max(longest, len(seen))
		}
	}
	return longest
}

// loose are the strips that are not held.
func (w woven) loose() []int {
	var l []int
	for strip, crossings := range w.strips {
		over, under := false, false
		for _, x := range crossings {
			over, under = over || x.over, under || !x.over
		}
		if !over || !under {
			l = append(l, strip)
		}
	}
	return l
}

// liftsOff tells whether strips lift off.
func (w woven) liftsOff(list []int) bool {
	for _, strip := range list {
		for _, x := range w.strips[strip] {
			if !x.over && !slices.Contains(list, x.other) {
				return false
			}
		}
	}
	return len(list) > 0 && len(list) < len(w.strips)
}

// allLists are all lists of strips that lift off, the fewest strips first, and then in the order of their numbers.
func (w woven) allLists() [][]int {
	var lists [][]int
	for set := range 1 << len(w.strips) {
		var list []int
		for strip := range w.strips {
			if set>>strip&1 == 1 {
				list = append(list, strip)
			}
		}
		if w.liftsOff(list) {
			lists = append(lists, list)
		}
	}
	slices.SortFunc(lists, inOrder)
	return lists
}

func inOrder(a, b []int) int { return cmp.Or(cmp.Compare(len(a), len(b)), slices.Compare(a, b)) }

// fewest are those lists that are as short as the first one.
func fewest(lists [][]int) [][]int {
	var few [][]int
	for _, list := range lists {
		if len(list) == len(lists[0]) {
			few = append(few, list)
		}
	}
	return few
}

// wideLists are the fewest strips that lift off, in all lists of them, also in a large screen: sets grow by what lies over them until they do not any more.
func (w woven) wideLists() [][]int {
	var lists [][]int
	for from := range w.strips {
		list := []int{from}
		for grown := true; grown; {
			grown = false
			for _, strip := range list {
				for _, x := range w.strips[strip] {
					if !x.over && !slices.Contains(list, x.other) {
						list = append(list, x.other)
						grown = true
					}
				}
			}
		}
		slices.Sort(list)
		if w.liftsOff(list) && !slices.ContainsFunc(lists, func(l []int) bool { return slices.Equal(l, list) }) {
			lists = append(lists, list)
		}
	}
	slices.SortFunc(lists, inOrder)
	return fewest(lists)
}

// first is the first list of some, or none.
func first(lists [][]int) []int {
	if len(lists) == 0 {
		return nil
	}
	return lists[0]
}

// lengths are how long all strips are.
func (w woven) lengths(s api.Screen, g api.Gauge) []int {
	var l []int
	for strip, crossings := range w.strips {
		n := len(crossings) * g.Pitch
		for _, pair := range w.neighbours(strip) {
			if crossings[pair[0]].over != crossings[pair[1]].over {
				n += g.Bow
			}
		}
		if s.Round && strip >= s.Columns {
			n += g.Lap
		}
		l = append(l, n)
	}
	return l
}

// bundles are the members for such lengths: sticks are split for one strip after the other, the shortest ones first.
func modelBundles(lengths []int, g api.Gauge) []api.Member {
	var m []api.Member
	left := 0
	for _, length := range slices.Sorted(slices.Values(lengths)) {
		if left == 0 || m[len(m)-1].Length != length {
			m = append(m, api.Member{Length: length, Grade: g.Grade, Buy: g.Buy})
			left = g.Split
		}
		left--
	}
	return m
}

// chance draws the same numbers each time.
func chance(seed uint64) *rand.Rand { return rand.New(rand.NewPCG(seed, 8)) }

// among is a number from lo to hi.
func among(r *rand.Rand, lo, hi int) int { return lo + r.IntN(hi-lo+1) }

// anyPattern is up to so many wide, with up to so many rows: by chance, mostly over or mostly under, nearly plain, in layers that lie over each other, or with single strips over the others.
func anyPattern(r *rand.Rand, wide, rows int) api.Pattern {
	p := api.Pattern{Wide: among(r, 1, wide)}
	rows = among(r, 1, rows)
	kind, over := r.IntN(5), []int{1, 2, 5, 8, 9}[r.IntN(5)]
	high := anyNumbers(r, wide+rows, []int{1, 1, 5}[r.IntN(3)])
	for row := range rows {
		for column := range p.Wide {
			o := r.IntN(10) < over
			switch {
			case kind == 1:
				o = (row+column)%2 == 0 != (r.IntN(12) == 0)
			case kind >= 2 && high[column] != high[wide+row]:
				o = high[column] > high[wide+row]
			case kind == 3:
				o = (row+column)%2 == 0
			case kind == 4:
				o = r.IntN(2) == 0
			}
			p.Over = append(p.Over, o)
		}
	}
	return p
}

// anyNumbers are as many as asked for, each from 0 to another one.
func anyNumbers(r *rand.Rand, number, most int) []int {
	var l []int
	for range number {
		l = append(l, among(r, 0, most))
	}
	return l
}

// anyScreen has at most so many columns, and rows, and a pattern that closes in it.
func anyScreen(r *rand.Rand, p api.Pattern, most int) api.Screen {
	s := flat(among(r, 1, most), among(r, 1, most))
	if turns := most / p.Wide; turns > 0 && r.IntN(2) == 0 {
		s.Columns, s.Round = p.Wide*among(r, 1, turns), true
	}
	return s
}

// anyGauge has small numbers, among which there are several ways to the same length, or any others.
func anyGauge(r *rand.Rand) api.Gauge {
	pitch, bow, lap := 3, 2, 5
	if r.IntN(2) == 0 {
		pitch, bow, lap = 500, 100, 1000
	}
	return api.Gauge{Pitch: among(r, 1, pitch), Bow: among(r, 0, bow), Lap: among(r, 0, lap), Split: among(r, 1, 12), Grade: among(r, 0, 3), Buy: among(r, 0, 500)}
}

// anySticks are about as long as some members, of all grades.
func anySticks(r *rand.Rand, m []api.Member) []api.Stick {
	var l []api.Stick
	for range r.IntN(17) {
		length := 100
		if len(m) > 0 {
			length = m[r.IntN(len(m))].Length + among(r, -20, 300)
		}
		l = append(l, api.Stick{Trunk: r.IntN(6), Length: min(max(length, 100), 20000), Grade: among(r, 0, 3)})
	}
	return l
}
