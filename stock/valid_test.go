package stock_test

import (
	"math"
	"slices"
	"testing"

	"canebrake/api"
	"canebrake/stock"
)

// wantCheck asks all functions whether sticks and members are valid. The prices are wrong, so that their error shows that the others come first.
func wantCheck(t *testing.T, l []api.Stick, m []api.Member, want api.Errno) {
	t.Helper()
	if e := stock.Check(l, m); e != want {
		t.Error(l, m, "is", e, "not", want)
	}
	plan, cost, e := stock.Least(l, m)
	prices, f := stock.Prices(l, m)
	if e != want || f != want || want != api.OK && (len(plan) > 0 || cost != 0 || len(prices) > 0) {
		t.Error(l, m, "is", plan, cost, e, prices, f, "not", want)
	}
	if want == api.OK {
		want = api.ErrPrices
	}
	for _, wrong := range [][]int{slices.Repeat([]int{-1}, max(1, len(l))), make([]int, len(l)+1)} {
		if n, e := stock.Bound(l, m, wrong); n != 0 || e != want {
			t.Error(l, m, wrong, "is", n, e, "not", want)
		}
	}
}

// around are numbers at the ends of a range, beyond them, and far away.
func around(least, most int) []int {
	return []int{
		least - 1, least, least + 1, most - 1, most, most + 1,
		math.MinInt, math.MinInt + 1, -1 << 32, 1 << 32, 1<<32 + least, math.MaxInt/2 + 1, math.MaxInt - 1, math.MaxInt,
	}
}

// orError is no error if all is valid, otherwise the one that is given.
func orError(valid bool, e api.Errno) api.Errno {
	if valid {
		return api.OK
	}
	return e
}

// TestTrunkBounds sets each number of a trunk, and the saw, to the ends of its range, and beyond (P7.1, R5).
func TestTrunkBounds(t *testing.T) {
	for _, x := range []struct {
		name        string
		least, most int
		set         func(x *api.Trunk, n int)
	}{
		{"length", 100, 20000, func(x *api.Trunk, n int) { *x = trunk(n, 1) }},
		{"length behind a bend", 401, 20000, func(x *api.Trunk, n int) { x.Length = n }},
		{"grade", 0, 3, func(x *api.Trunk, n int) { x.Grade = n }},
		{"first bend", 1, 399, func(x *api.Trunk, n int) { x.Bends[0] = n }},
		{"last bend", 301, 499, func(x *api.Trunk, n int) { x.Bends[1] = n }},
		{"bend alone", 1, 499, func(x *api.Trunk, n int) { x.Bends = []int{n} }},
	} {
		for _, n := range around(x.least, x.most) {
			l := []api.Trunk{trunk(600, 2, 200), trunk(500, 1, 300, 400), trunk(700, 3)}
			x.set(&l[1], n)
			valid := n >= x.least && n <= x.most
			if _, e := stock.Saw(l, 10); e != orError(valid, api.ErrTrunks) {
				t.Error(x.name, n, e)
			}
			// Trunks are looked at before the saw.
			if !valid {
				wantSawError(t, l, 51, api.ErrTrunks)
			}
		}
	}
	for _, saw := range around(0, 50) {
		if _, e := stock.Saw(exampleTrunks(), saw); e != orError(saw >= 0 && saw <= 50, api.ErrArg) {
			t.Error(saw, e)
		}
	}
}

// TestTrunkBends has bends in all orders (P7.1).
func TestTrunkBends(t *testing.T) {
	for _, x := range []struct {
		bends []int
		valid bool
	}{
		{nil, true}, {[]int{1, 2}, true}, {[]int{2, 1}, false}, {[]int{2, 2}, false}, {[]int{1, 499}, true}, {[]int{499, 499}, false},
		{[]int{1, 2, 3, 4}, true}, {[]int{496, 497, 498, 499}, true}, {[]int{497, 498, 499, 500}, false}, {[]int{0, 1, 2, 3}, false},
		{[]int{100, 200, 300, 300}, false}, {[]int{100, 300, 200, 400}, false}, {[]int{100, 100, 200, 300}, false}, {[]int{100, 200, 200, 300}, false},
		{[]int{100, 200, 300, 400, 450}, false}, {[]int{1, 2, 3, 4, 5}, false}, {make([]int, 1<<16), false},
	} {
		for at := range 3 {
			l := []api.Trunk{trunk(600, 2, 200), trunk(700, 3), trunk(500, 0)}
			l[at].Length, l[at].Bends = 500, x.bends
			if _, e := stock.Saw(l, 50); e != orError(x.valid, api.ErrTrunks) {
				t.Error(x.bends, at, e)
			}
		}
	}
}

// TestTrunkLists has lists of all lengths: each trunk counts, the last one too (P7.1).
func TestTrunkLists(t *testing.T) {
	for number := range 9 {
		l := slices.Repeat([]api.Trunk{trunk(300, 1, 150)}, number)
		if _, e := stock.Saw(l, 0); e != orError(number <= 6, api.ErrTrunks) {
			t.Error(number, e)
		}
		if number > 0 {
			l[number-1].Grade = 4
			wantSawError(t, l, 0, api.ErrTrunks)
		}
	}
	wantSawError(t, make([]api.Trunk, 1<<16), 0, api.ErrTrunks)
	wantSawError(t, slices.Repeat([]api.Trunk{trunk(300, 1)}, 1<<16), 0, api.ErrTrunks)
}

// TestSawInOrder has trunks and a saw that are wrong at once, and too many sticks (P7.1, R1).
func TestSawInOrder(t *testing.T) {
	many := slices.Repeat([]api.Trunk{trunk(600, 1, 150, 350)}, 6)
	wrong := append(slices.Clone(many[:5]), trunk(600, 1, 350, 150))
	wantSawError(t, many, 10, api.ErrSticks)
	wantSawError(t, many, -1, api.ErrArg)
	wantSawError(t, many, 51, api.ErrArg)
	wantSawError(t, wrong, 10, api.ErrTrunks)
	wantSawError(t, wrong, -1, api.ErrTrunks)
	wantSawError(t, wrong, 51, api.ErrTrunks)
	wantSawError(t, nil, -1, api.ErrArg)
	wantSawError(t, nil, 51, api.ErrArg)
}

// TestStickBounds sets each number of a stick to the ends of its range, and beyond (P7.2, R5).
func TestStickBounds(t *testing.T) {
	for _, x := range []struct {
		name        string
		least, most int
		set         func(s *api.Stick, n int)
	}{
		{"trunk", 0, 5, func(s *api.Stick, n int) { s.Trunk = n }},
		{"length", 100, 20000, func(s *api.Stick, n int) { s.Length = n }},
		{"grade", 0, 3, func(s *api.Stick, n int) { s.Grade = n }},
	} {
		for _, n := range around(x.least, x.most) {
			for at := range 3 {
				l := []api.Stick{of(3, 600, 1), of(0, 700, 2), of(3, 200, 0)}
				x.set(&l[at], n)
				want := orError(n >= x.least && n <= x.most, api.ErrSticks)
				wantCheck(t, l, exampleMembers(), want)
				if t.Failed() {
					t.Fatal(x.name, n, at)
				}
			}
		}
	}
}

// TestMemberBounds sets each number of a member to the ends of its range, and beyond (P7.2, R5).
func TestMemberBounds(t *testing.T) {
	for _, x := range []struct {
		name        string
		least, most int
		set         func(m *api.Member, n int)
	}{
		{"length", 1, 20000, func(m *api.Member, n int) { m.Length = n }},
		{"grade", 0, 3, func(m *api.Member, n int) { m.Grade = n }},
		{"buy", 0, 1000000, func(m *api.Member, n int) { m.Buy = n }},
	} {
		for _, n := range around(x.least, x.most) {
			for at := range 3 {
				m := exampleMembers()
				x.set(&m[at], n)
				want := orError(n >= x.least && n <= x.most, api.ErrMembers)
				wantCheck(t, []api.Stick{stick(600, 1), stick(700, 2)}, m, want)
				if t.Failed() {
					t.Fatal(x.name, n, at)
				}
			}
		}
	}
}

// TestLists has lists of all lengths: each stick and each member counts, the last one too (P7.2).
func TestLists(t *testing.T) {
	for number := range 19 {
		l := slices.Repeat([]api.Stick{stick(600, 1)}, number)
		wantCheck(t, l, exampleMembers(), orError(number <= 16, api.ErrSticks))
		if number > 0 {
			l[number-1].Length = 99
			wantCheck(t, l, exampleMembers(), api.ErrSticks)
		}
	}
	l := []api.Stick{stick(600, 1), stick(700, 2)}
	for number := range 11 {
		m := slices.Repeat([]api.Member{member(500, 1, 50)}, number)
		wantCheck(t, l, m, orError(number <= 8, api.ErrMembers))
		if number > 0 {
			m[number-1].Length = 0
			wantCheck(t, l, m, api.ErrMembers)
		}
	}
	wantCheck(t, slices.Repeat(l, 1<<15), nil, api.ErrSticks)
	wantCheck(t, l, slices.Repeat(exampleMembers(), 1<<15), api.ErrMembers)
}

// TestCheckInOrder has sticks and members that are wrong at once (P7.2, R1).
func TestCheckInOrder(t *testing.T) {
	l, m := []api.Stick{stick(600, 1)}, []api.Member{member(500, 1, 50)}
	for _, sticks := range [][]api.Stick{{of(6, 600, 1)}, {stick(99, 1)}, {stick(600, 4)}, slices.Repeat(l, 17)} {
		for _, members := range [][]api.Member{m, {member(0, 1, 50)}, {member(500, 4, 50)}, {member(500, 1, -1)}, slices.Repeat(m, 9)} {
			wantCheck(t, sticks, members, api.ErrSticks)
			if &members[0] != &m[0] {
				wantCheck(t, l, members, api.ErrMembers)
			}
		}
	}
}

// TestPricesBounds has prices at the ends of their range, and beyond, and other numbers of them than there are sticks (P7.4, R5).
func TestPricesBounds(t *testing.T) {
	l := []api.Stick{stick(600, 1), stick(700, 2), stick(3000, 2)}
	for _, n := range around(0, 1000000) {
		for at := range l {
			prices := []int{5, 6, 7}
			prices[at] = n
			want := orError(n >= 0 && n <= 1000000, api.ErrPrices)
			if b, e := stock.Bound(l, exampleMembers(), prices); e != want || e != api.OK && b != 0 {
				t.Error(prices, b, e)
			}
		}
	}
	for sticks := range 17 {
		for prices := range 19 {
			want := orError(sticks == prices, api.ErrPrices)
			if b, e := stock.Bound(slices.Repeat(l[:1], sticks), nil, make([]int, prices)); b != 0 || e != want {
				t.Error(sticks, prices, b, e)
			}
		}
	}
	if b, e := stock.Bound(l, nil, make([]int, 1<<16)); b != 0 || e != api.ErrPrices {
		t.Error(b, e)
	}
}
