package ward_test

import (
	"math"
	"reflect"
	"slices"
	"strings"
	"sync"
	"testing"

	"canebrake/api"
	"canebrake/ward"
)

// answer is all that the calls of the package return for the same arguments.
type answer struct {
	check   api.Errno
	slide   []int
	slideE  api.Errno
	bar     uint8
	barE    api.Errno
	ground  []int
	groundE api.Errno
	way     []int
	wayE    api.Errno
	plant   []int
	plantE  api.Errno
	cuts    [][]int
	cutsE   api.Errno
}

// ask asks for the slide and the bar of the cell from.
func ask(s api.Slope, c api.Care, from, to int) answer {
	var a answer
	a.check = ward.Check(s, c)
	a.slide, a.slideE = ward.Slide(s, c, from)
	a.bar, a.barE = ward.Bar(s, c, from)
	a.ground, a.groundE = ward.Ground(s, c)
	a.way, a.wayE = ward.Way(s, c, from, to)
	a.plant, a.plantE = ward.Plant(s, c, from, to)
	a.cuts, a.cutsE = ward.Cuts(s, c, from, to)
	return a
}

// bare tells whether there is nothing beside errors.
func bare(a answer) bool {
	return (a.slideE == api.OK || len(a.slide) == 0) &&
		(a.barE == api.OK || a.bar == 0) &&
		(a.groundE == api.OK || len(a.ground) == 0) &&
		(a.wayE == api.OK || len(a.way) == 0) &&
		(a.plantE == api.OK || len(a.plant) == 0) &&
		(a.cutsE == api.OK || len(a.cuts) == 0)
}

// TestErrorsInOrder gives calls arguments with several faults (R1), and looks at what stands beside an error (R2).
func TestErrorsInOrder(t *testing.T) {
	wrong := example()
	wrong.Cells[7].Kind = 6
	shore := slopeOf(3, "BWB", 3, 2, 1)
	for i, x := range []struct {
		s        api.Slope
		c        api.Care
		from, to int
		want     [5]api.Errno // of Check, Slide and Bar, Ground, Way, and Plant and Cuts
	}{
		{wrong, api.Care{}, -1, -1, [5]api.Errno{30, 30, 30, 30, 30}},
		{wrong, exampleCare(), 99, 0, [5]api.Errno{30, 30, 30, 30, 30}},
		{api.Slope{}, careOf(1, 65, 0), 0, 0, [5]api.Errno{30, 30, 30, 30, 30}},
		{example(), careOf(0, 0, 0), -1, -1, [5]api.Errno{31, 31, 31, 31, 31}},
		{shore, careOf(1, 65, 0), 0, 2, [5]api.Errno{31, 31, 31, 31, 31}},
		{shore, careOf(1, 0, 15), 3, 2, [5]api.Errno{31, 31, 31, 31, 31}},
		{shore, calm(), -1, 2, [5]api.Errno{0, api.ErrArg, 0, api.ErrArg, api.ErrArg}},
		{shore, calm(), 0, 3, [5]api.Errno{0, 0, 0, api.ErrArg, api.ErrArg}},
		{shore, calm(), 1, 2, [5]api.Errno{0, 0, 0, api.ErrArg, api.ErrArg}},
		{shore, calm(), 0, 1, [5]api.Errno{0, 0, 0, api.ErrArg, api.ErrArg}},
		{shore, calm(), 1, 1, [5]api.Errno{0, 0, 0, api.ErrArg, api.ErrArg}},
		{shore, calm(), 0, 2, [5]api.Errno{0, 0, 0, api.ErrNone, api.ErrNone}},
		{shore, calm(), 2, 2, [5]api.Errno{}},
	} {
		a := ask(x.s, x.c, x.from, x.to)
		if got := [5]api.Errno{a.check, a.slideE, a.groundE, a.wayE, a.plantE}; got != x.want || a.barE != a.slideE || a.cutsE != a.plantE {
			t.Error(i, got, a.barE, a.cutsE)
		}
		if !bare(a) {
			t.Error(i, a)
		}
	}
}

// TestArgumentsStay looks for arguments that were written to, also behind their ends (R3).
func TestArgumentsStay(t *testing.T) {
	behind := api.Cell{High: 77, Kind: api.CellHouse}
	for _, to := range []int{11, 8, 99} {
		s := example()
		whole := append(slices.Clone(s.Cells), behind, behind, behind, behind)
		want := slices.Clone(whole)
		s.Cells = whole[:12]
		if a := ask(s, exampleCare(), 0, to); a.slideE != api.OK || !slices.Equal(whole, want) {
			t.Error(to, whole)
		}
	}
}

// spoil writes all over a list, up to its capacity.
func spoil[T any](list []T, with T) {
	list = list[:cap(list)]
	for i := range list {
		list[i] = with
	}
}

// TestResultsAreNew writes over results, one after the other, and looks at all others, at the arguments, and at what is told again (R3).
func TestResultsAreNew(t *testing.T) {
	s, c := example(), exampleCare()
	want := ask(s, c, 0, 11)
	a := ask(s, c, 0, 11)
	lists := append([][]int{a.slide, a.ground, a.way, a.plant}, a.cuts...)
	wanted := append([][]int{want.slide, want.ground, want.way, want.plant}, want.cuts...)
	for i := range lists {
		spoil(lists[i], -7)
		for k := range lists {
			if k > i && !slices.Equal(lists[k], wanted[k]) {
				t.Error("two results share memory", i, k)
			}
		}
	}
	spoil(a.cuts, nil)
	if !reflect.DeepEqual(s, example()) {
		t.Error("an argument was spoilt", s)
	}
	if again := ask(s, c, 0, 11); !reflect.DeepEqual(again, want) {
		t.Error("a call remembers another one")
	}
}

// TestNoCallRemembers asks for many things in two orders, and at the same time (R3).
func TestNoCallRemembers(t *testing.T) {
	r := chance(8)
	var slopes []api.Slope
	var cares []api.Care
	for range 80 {
		s, c := anySlope(r, 8, 8)
		slopes, cares = append(slopes, s), append(cares, c)
	}
	askOf := func(i int) answer {
		n := len(slopes[i].Cells)
		return ask(slopes[i], cares[i], i%n, (i*i+7)%n)
	}
	want := make([]answer, len(slopes))
	for i := range slopes {
		want[i] = askOf(i)
	}
	for i := range slices.Backward(slopes) {
		if a := askOf(i); !reflect.DeepEqual(a, want[i]) {
			t.Error(i, a, want[i])
		}
	}
	got := make([]answer, len(slopes))
	var all sync.WaitGroup
	for i := range slopes {
		all.Go(func() { got[i] = askOf(i) })
	}
	all.Wait()
	if !reflect.DeepEqual(got, want) {
		t.Error("calls at the same time disturb each other")
	}
}

// TestSameEachTime asks for the same thing often: what is kept in maps shows in no order (R3).
func TestSameEachTime(t *testing.T) {
	r := chance(10)
	for range 20 {
		s, c := anySlope(r, 8, 8)
		n := len(s.Cells)
		want := ask(s, c, 0, n-1)
		for range 10 {
			if a := ask(s, c, 0, n-1); !reflect.DeepEqual(a, want) {
				t.Fatal(s, c, a, want)
			}
		}
	}
}

// TestNilIsEmpty gives the calls a nil list and an empty one: there is no slope without cells (R4).
func TestNilIsEmpty(t *testing.T) {
	for wide := -1; wide <= 9; wide++ {
		a := ask(api.Slope{Wide: wide}, calm(), 0, 0)
		b := ask(api.Slope{Wide: wide, Cells: []api.Cell{}}, calm(), 0, 0)
		if !reflect.DeepEqual(a, b) || a.check != api.ErrSlope {
			t.Error(wide, a, b)
		}
	}
}

// TestAnyValue has slopes that nobody would find: they count as valid (R6).
func TestAnyValue(t *testing.T) {
	// A lake above houses, as high as can be, and nothing else.
	s := slopeOf(2, "WW HH", 9000, 9000)
	if a := ask(s, careOf(1, 64, 14), 0, 0); a.check != api.OK || !slices.Equal(a.slide, []int{0, 2}) || a.bar != api.BarKind || a.groundE != api.OK || len(a.ground) != 0 || a.wayE != api.ErrArg {
		t.Error(a)
	}
	// A care that nothing on the slope asks for.
	if a := ask(slopeOf(1, "B"), careOf(9000, 64, 14), 0, 0); a.check != api.OK || !slices.Equal(a.ground, []int{0}) || !slices.Equal(a.way, []int{0}) {
		t.Error(a)
	}
}

// TestOddArguments gives the calls numbers of all kinds: each call ends, without a panic, and all of them agree on what is valid (R5, R7).
func TestOddArguments(t *testing.T) {
	r := chance(9)
	odd := []int{math.MinInt, math.MinInt + 1, -1 << 32, -9, -2, -1, 0, 1, 2, 3, 4, 6, 8, 9, 12, 14, 15, 64, 65, 8999, 9000, 9001, 1 << 32, math.MaxInt - 1, math.MaxInt}
	number := func() int { return odd[r.IntN(len(odd))] }
	valid := 0
	for range 20000 {
		s, c := example(), exampleCare()
		s.Cells = append(s.Cells, make([]api.Cell, r.IntN(2)*r.IntN(90))...)
		for range r.IntN(4) {
			x := &s.Cells[r.IntN(len(s.Cells))]
			numbers := []*int{&s.Wide, &x.High, &c.Steep, &c.Reach, &c.Edge}
			*numbers[r.IntN(len(numbers))] = number()
			x.Kind = uint8(r.IntN(6) + r.IntN(2)*r.IntN(2)*number())
		}
		a := ask(s, c, number(), number())
		if a.check == api.OK {
			valid++
		}
		for _, e := range []api.Errno{a.slideE, a.barE, a.groundE, a.wayE, a.plantE, a.cutsE} {
			if a.check != api.OK && e != a.check || a.check == api.OK && (e == api.ErrSlope || e == api.ErrCare) {
				t.Fatal(s, c, a)
			}
		}
		if !bare(a) {
			t.Fatal(s, c, a)
		}
	}
	if valid < 2000 || valid > 18000 {
		t.Error("one kind of answer was hardly met", valid)
	}
}

// TestWorst has slopes as large as can be, on which all is to be gone through (R7: each call ends).
func TestWorst(t *testing.T) {
	for _, kinds := range []string{"B", "G", "F", "BF", "GGF", "GBBFFGB"} {
		s := slopeOf(8, strings.Repeat(kinds, 64)[:64])
		for i := range s.Cells {
			s.Cells[i].High = 100 * (i/8 + i%8)
		}
		for _, c := range []api.Care{careOf(1, 64, 0), careOf(100, 0, 14), careOf(9000, 64, 14)} {
			for _, to := range []int{0, 7, 56, 63} {
				if a := ask(s, c, 63, to); a.wayE != api.OK || a.way[0] != 63 || a.way[len(a.way)-1] != to || len(a.slide) == 0 {
					t.Error(kinds, c, to, a)
				}
			}
		}
	}
	if _, e := ward.Ground(api.Slope{Wide: 8, Cells: make([]api.Cell, 1<<20)}, calm()); e != api.ErrSlope {
		t.Error(e)
	}
}
