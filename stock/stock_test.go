package stock_test

import (
	"slices"
	"testing"

	"canebrake/api"
	"canebrake/stock"
)

func trunk(length, grade int, bends ...int) api.Trunk {
	return api.Trunk{Length: length, Grade: grade, Bends: bends}
}

func stick(length, grade int) api.Stick { return api.Stick{Length: length, Grade: grade} }

// of is a stick of a trunk.
func of(trunk, length, grade int) api.Stick {
	return api.Stick{Trunk: trunk, Length: length, Grade: grade}
}

func member(length, grade, buy int) api.Member {
	return api.Member{Length: length, Grade: grade, Buy: buy}
}

// exampleTrunks and exampleMembers are those of the chapter's examples.
func exampleTrunks() []api.Trunk {
	return []api.Trunk{trunk(5000, 2, 2000, 4950), trunk(3000, 1)}
}

func exampleMembers() []api.Member {
	return []api.Member{member(1900, 1, 500), member(2800, 2, 900), member(2500, 1, 600)}
}

func wantSaw(t *testing.T, l []api.Trunk, saw int, want ...api.Stick) {
	t.Helper()
	if s, e := stock.Saw(l, saw); !slices.Equal(s, want) || e != api.OK {
		t.Error(l, saw, "is", s, e, "not", want)
	}
}

func wantSawError(t *testing.T, l []api.Trunk, saw int, want api.Errno) {
	t.Helper()
	if s, e := stock.Saw(l, saw); len(s) > 0 || e != want {
		t.Error(l, saw, "is", s, e, "not", want)
	}
}

func wantLeast(t *testing.T, l []api.Stick, m []api.Member, cost int, plan ...int) {
	t.Helper()
	if p, n, e := stock.Least(l, m); !slices.Equal(p, plan) || n != cost || e != api.OK {
		t.Error(l, m, "is", p, n, e, "not", plan, cost)
	}
}

func wantPrices(t *testing.T, l []api.Stick, m []api.Member, want ...int) {
	t.Helper()
	if p, e := stock.Prices(l, m); !slices.Equal(p, want) || e != api.OK {
		t.Error(l, m, "is", p, e, "not", want)
	}
}

func wantBound(t *testing.T, l []api.Stick, m []api.Member, want int, prices ...int) {
	t.Helper()
	if n, e := stock.Bound(l, m, prices); n != want || e != api.OK {
		t.Error(l, m, prices, "is", n, e, "not", want)
	}
}

// TestExamples has the examples of the chapter.
func TestExamples(t *testing.T) {
	l, m := []api.Stick{of(0, 2000, 2), of(0, 2940, 2), of(1, 3000, 1)}, exampleMembers()
	wantSaw(t, exampleTrunks(), 10, l...)
	wantLeast(t, l, m, 740, 0, 1, 2)
	wantPrices(t, l, m, 400, 760, 100)
	wantBound(t, l, m, 740, 400, 760, 100)
	wantBound(t, l, m, 680, 0, 0, 0)
}

// TestSawPieces has trunks with all numbers of bends, and saws of all widths (P7.1).
func TestSawPieces(t *testing.T) {
	for _, x := range []struct {
		t    api.Trunk
		saw  int
		want []int
	}{
		// Without bends the saw takes nothing.
		{trunk(100, 0), 0, []int{100}}, {trunk(100, 0), 50, []int{100}}, {trunk(20000, 0), 50, []int{20000}},
		{trunk(1000, 0, 400), 0, []int{400, 600}}, {trunk(1000, 0, 400), 1, []int{400, 599}}, {trunk(1000, 0, 400), 50, []int{400, 550}},
		{trunk(1000, 0, 200, 400, 600, 800), 0, []int{200, 200, 200, 200, 200}},
		{trunk(1000, 0, 200, 400, 600, 800), 50, []int{200, 150, 150, 150, 150}},
		// A piece of just MinStick, and one below it: at the foot, between bends, and at the top.
		{trunk(1000, 0, 100), 10, []int{100, 890}}, {trunk(1000, 0, 99), 10, []int{891}},
		{trunk(1000, 0, 300, 410), 10, []int{300, 100, 580}}, {trunk(1000, 0, 300, 409), 10, []int{300, 581}}, {trunk(1000, 0, 300, 410), 11, []int{300, 579}},
		{trunk(1000, 0, 890), 10, []int{890, 100}}, {trunk(1000, 0, 891), 10, []int{891}}, {trunk(1000, 0, 890), 11, []int{890}},
		{trunk(200, 0, 100), 0, []int{100, 100}}, {trunk(199, 0, 100), 0, []int{100}}, {trunk(199, 0, 99), 0, []int{100}}, {trunk(198, 0, 99), 0, nil},
		// Bends that are as far from each other as the saw is wide, nearer, and next to each other.
		{trunk(1000, 0, 300, 350), 50, []int{300, 600}}, {trunk(1000, 0, 300, 349), 50, []int{300, 601}}, {trunk(1000, 0, 300, 301), 50, []int{300, 649}},
		{trunk(1000, 0, 300, 301, 302, 303), 50, []int{300, 647}}, {trunk(1000, 0, 300, 301), 0, []int{300, 699}},
		// The saw takes more than there is up to the top; bends at both ends.
		{trunk(1000, 0, 951), 50, []int{951}}, {trunk(1000, 0, 999), 50, []int{999}}, {trunk(1000, 0, 1), 50, []int{949}}, {trunk(1000, 0, 1), 0, []int{999}},
		{trunk(20000, 0, 1, 2, 3, 19999), 50, []int{19946}},
		{trunk(100, 0, 1, 2, 98, 99), 50, nil},
	} {
		var want []api.Stick
		for _, length := range x.want {
			want = append(want, stick(length, 0))
		}
		wantSaw(t, []api.Trunk{x.t}, x.saw, want...)
	}
}

// TestSawTrunks has several trunks, also such of which nothing is left (P7.1).
func TestSawTrunks(t *testing.T) {
	wantSaw(t, nil, 0)
	wantSaw(t, nil, 50)
	l := []api.Trunk{trunk(500, 3, 200), trunk(150, 2, 99), trunk(600, 0, 50, 350), trunk(150, 1), trunk(7000, 2), trunk(400, 1, 399)}
	wantSaw(t, l, 20, of(0, 200, 3), of(0, 280, 3), of(2, 280, 0), of(2, 230, 0), of(3, 150, 1), of(4, 7000, 2), of(5, 399, 1))
	slices.Reverse(l)
	wantSaw(t, l, 20, of(0, 399, 1), of(1, 7000, 2), of(2, 150, 1), of(3, 280, 0), of(3, 230, 0), of(5, 200, 3), of(5, 280, 3))
}

// TestSawMany has as many sticks as there may be, and more (P7.1).
func TestSawMany(t *testing.T) {
	whole, five := trunk(1000, 1), trunk(1000, 1, 200, 400, 600, 800)
	for i, x := range []struct {
		l    []api.Trunk
		want int
	}{
		{[]api.Trunk{five, five, five}, 15},
		{[]api.Trunk{five, five, five, whole}, 16},
		{[]api.Trunk{whole, five, five, five}, 16},
		{[]api.Trunk{five, five, five, whole, whole}, 17},
		{[]api.Trunk{five, five, five, five}, 20},
		{slices.Repeat([]api.Trunk{five}, 6), 30},
		// Twenty pieces, of which some are dropped.
		{append(slices.Repeat([]api.Trunk{trunk(200, 0, 20, 40, 60, 80)}, 3), five, five, whole), 14},
		{append(slices.Repeat([]api.Trunk{trunk(400, 0, 20, 40, 150, 180)}, 3), five, five), 16},
		{append(slices.Repeat([]api.Trunk{trunk(400, 0, 20, 40, 150, 180)}, 3), five, five, whole), 17},
	} {
		if s, e := stock.Saw(x.l, 0); x.want <= 16 && (len(s) != x.want || e != api.OK) {
			t.Error(i, s, e)
		}
		if x.want > 16 {
			wantSawError(t, x.l, 0, api.ErrSticks)
		}
	}
	// Too many sticks are fewer with a saw that leaves less of them.
	l := slices.Repeat([]api.Trunk{trunk(400, 0, 149, 298)}, 6)
	wantSawError(t, l, 2, api.ErrSticks)
	for saw, want := range map[int]int{3: 12, 49: 12, 50: 6} {
		if s, e := stock.Saw(l, saw); len(s) != want || e != api.OK {
			t.Error(saw, s, e)
		}
	}
}

// TestGood has sticks that are just good for a member, by their lengths and by their grades, and such that are not (P7.2).
func TestGood(t *testing.T) {
	for _, x := range []struct {
		s    api.Stick
		m    api.Member
		cost int
		stay bool
	}{
		{stick(500, 1), member(500, 1, 1000), 0, true}, {stick(501, 1), member(500, 1, 1000), 1, true}, {stick(499, 1), member(500, 1, 1000), 1000, false},
		{stick(500, 2), member(500, 1, 1000), 0, true}, {stick(500, 0), member(500, 1, 1000), 1000, false}, {stick(9000, 2), member(1, 3, 9999), 9999, false},
		{stick(9000, 3), member(1, 3, 9999), 8999, true}, {stick(100, 0), member(1, 0, 100), 99, true}, {stick(20000, 0), member(20000, 0, 1), 0, true},
		{stick(19999, 3), member(20000, 0, 1), 1, false}, {of(5, 500, 1), member(500, 1, 1000), 0, true},
	} {
		plan, price := -1, 0
		if x.stay {
			plan, price = 0, x.m.Buy-x.cost
		}
		l, m := []api.Stick{x.s}, []api.Member{x.m}
		wantLeast(t, l, m, x.cost, plan)
		wantPrices(t, l, m, price)
		wantBound(t, l, m, x.cost, price)
	}
}

// TestNothing has no sticks, and no members (P7.2 to P7.4).
func TestNothing(t *testing.T) {
	l := []api.Stick{stick(300, 0), stick(400, 1)}
	m := []api.Member{member(200, 0, 30), member(300, 3, 0), member(1, 0, 1000000)}
	wantLeast(t, nil, nil, 0)
	wantPrices(t, nil, nil)
	wantBound(t, nil, nil, 0)
	wantLeast(t, l, nil, 0)
	wantPrices(t, l, nil, 0, 0)
	wantBound(t, l, nil, 0, 0, 0)
	wantBound(t, l, nil, -1000007, 7, 1000000)
	wantLeast(t, nil, m, 1000030, -1, -1, -1)
	wantPrices(t, nil, m)
	wantBound(t, nil, m, 1000030)
	// Members that no stick is good for.
	m = []api.Member{member(401, 0, 70), member(400, 2, 800), member(301, 3, 5)}
	wantLeast(t, l, m, 875, -1, -1, -1)
	wantPrices(t, l, m, 0, 0)
	wantBound(t, l, m, 875, 0, 0)
	wantBound(t, l, m, 872, 1, 2)
}

// TestBuy has a stick that costs less than its member, as much as it, and more (P7.2, P7.3).
func TestBuy(t *testing.T) {
	l := []api.Stick{stick(300, 0)}
	for _, x := range []struct{ buy, cost, plan, price int }{
		{0, 0, -1, 0}, {39, 39, -1, 0}, {40, 40, -1, 0}, {41, 40, 0, 1}, {42, 40, 0, 2}, {1000000, 40, 0, 999960},
	} {
		m := []api.Member{member(260, 0, x.buy)}
		wantLeast(t, l, m, x.cost, x.plan)
		wantPrices(t, l, m, x.price)
		wantBound(t, l, m, x.cost, x.price)
	}
	// Without waste nothing is cheaper, but what may be bought for nothing is bought.
	m := []api.Member{member(300, 0, 0)}
	wantLeast(t, l, m, 0, -1)
	wantPrices(t, l, m, 0)
}

// TestFirstPlan has several plans that cost the same (P7.2).
func TestFirstPlan(t *testing.T) {
	alike := []api.Stick{stick(300, 0), of(1, 300, 0), of(2, 300, 1)}
	for i, x := range []struct {
		l    []api.Stick
		m    []api.Member
		cost int
		plan []int
	}{
		{alike, []api.Member{member(250, 0, 900), member(260, 0, 900), member(270, 0, 900)}, 120, []int{0, 1, 2}},
		{alike, []api.Member{member(250, 0, 900), member(260, 0, 900)}, 90, []int{0, 1}},
		{alike, []api.Member{member(250, 1, 900), member(260, 0, 900), member(270, 0, 900)}, 120, []int{2, 0, 1}},
		{alike, []api.Member{member(250, 0, 900), member(260, 1, 900), member(270, 0, 900)}, 120, []int{0, 2, 1}},
		// The first member could take any of them, but the second one only the first.
		{[]api.Stick{stick(300, 1), stick(300, 0)}, []api.Member{member(200, 0, 900), member(200, 1, 900)}, 200, []int{1, 0}},
		{[]api.Stick{stick(400, 0), stick(300, 0)}, []api.Member{member(300, 0, 900), member(350, 0, 900)}, 50, []int{1, 0}},
		// With both members cut it costs the same either way; with one of them bought too: Bought is the least number.
		{[]api.Stick{stick(400, 0), stick(300, 0)}, []api.Member{member(200, 0, 900), member(250, 0, 900)}, 250, []int{0, 1}},
		{[]api.Stick{stick(300, 0)}, []api.Member{member(250, 0, 80), member(250, 0, 80)}, 130, []int{-1, 0}},
		{[]api.Stick{stick(300, 0)}, []api.Member{member(250, 0, 50), member(250, 0, 50)}, 100, []int{-1, -1}},
		{[]api.Stick{stick(300, 0), stick(290, 0)}, []api.Member{member(250, 0, 80), member(250, 0, 90), member(250, 0, 80)}, 170, []int{-1, 0, 1}},
		{[]api.Stick{stick(310, 0), stick(300, 0), stick(310, 0)}, []api.Member{member(300, 0, 10), member(300, 0, 10)}, 10, []int{-1, 1}},
		// What is first for the first member goes before what is first for the second one.
		{[]api.Stick{stick(300, 0), stick(300, 0)}, []api.Member{member(290, 0, 900), member(280, 0, 20)}, 30, []int{0, -1}},
		{[]api.Stick{stick(300, 0), stick(300, 0)}, []api.Member{member(280, 0, 20), member(290, 0, 900)}, 30, []int{-1, 0}},
	} {
		wantLeast(t, x.l, x.m, x.cost, x.plan...)
		if t.Failed() {
			t.Fatal(i)
		}
	}
}

// TestMoves has plans in which a stick for one member moves others to worse sticks (P7.2, P7.3).
func TestMoves(t *testing.T) {
	l := []api.Stick{stick(300, 3), stick(400, 2), stick(500, 1), stick(600, 0)}
	m := []api.Member{member(290, 0, 900), member(295, 1, 900), member(300, 2, 900), member(300, 3, 900)}
	// Only the first stick is good for the last member, so each other one takes the next longer one.
	wantLeast(t, l, m, 310+205+100, 3, 2, 1, 0)
	wantPrices(t, l, m, 900, 800, 695, 590)
	wantBound(t, l, m, 615, 900, 800, 695, 590)
	// Without the last one the longest stick is left, and takes the place of each other one, as members move on.
	wantLeast(t, l, m[:3], 10+205+100, 0, 2, 1)
	wantPrices(t, l, m[:3], 300, 200, 100, 0)
	wantBound(t, l, m[:3], 315, 300, 200, 100, 0)
}

// TestNotMissed has sticks without which nothing costs more, used or not (P7.3).
func TestNotMissed(t *testing.T) {
	m := []api.Member{member(300, 1, 900)}
	for _, x := range []struct {
		l    []api.Stick
		plan int
		want []int
	}{
		{[]api.Stick{stick(310, 1), stick(320, 1)}, 0, []int{10, 0}},
		{[]api.Stick{stick(320, 1), stick(310, 1)}, 1, []int{0, 10}},
		// Either one is used, and the other one takes its place.
		{[]api.Stick{stick(310, 1), stick(310, 1)}, 0, []int{0, 0}},
		{[]api.Stick{stick(310, 0), stick(310, 1)}, 1, []int{0, 890}},
		{[]api.Stick{stick(310, 1), stick(299, 1)}, 0, []int{890, 0}},
	} {
		cost := x.l[x.plan].Length - 300
		wantLeast(t, x.l, m, cost, x.plan)
		wantPrices(t, x.l, m, x.want...)
		wantBound(t, x.l, m, cost, x.want...)
	}
}

// TestBounds has prices of 0 and of MaxBuy, and others (P7.4).
func TestBounds(t *testing.T) {
	l := []api.Stick{stick(300, 1), stick(350, 2)}
	m := []api.Member{member(250, 0, 900), member(300, 2, 700), member(400, 0, 60)}
	for _, x := range []struct {
		want   int
		prices []int
	}{
		// 50 or 100 for the first member, 50 for the second one, and the third one is bought.
		{160, []int{0, 0}},
		// With a price of 50 the other stick is as good for the first member; with more it is better.
		{160, []int{50, 0}}, {159, []int{51, 0}}, {110, []int{100, 0}},
		// With a price of 650 the second member may as well be bought.
		{160, []int{0, 7}}, {160, []int{0, 650}}, {159, []int{0, 651}},
		{160, []int{50, 650}}, {160, []int{700, 650}}, {159, []int{701, 650}}, {159, []int{700, 649}}, {159, []int{700, 651}},
		{-999790, []int{1000000, 0}}, {-999190, []int{0, 1000000}}, {-1998340, []int{1000000, 1000000}},
	} {
		wantBound(t, l, m, x.want, x.prices...)
	}
	wantLeast(t, l, m, 160, 0, 1, -1)
	wantPrices(t, l, m, 700, 650)
	l, m = []api.Stick{stick(100, 0)}, []api.Member{member(1, 0, 1000000)}
	for _, x := range [][2]int{{0, 99}, {1, 99}, {999901, 99}, {999902, 98}, {1000000, 0}} {
		wantBound(t, l, m, x[1], x[0])
	}
	wantBound(t, l, []api.Member{member(1, 0, 0)}, -1000000, 1000000)
}
