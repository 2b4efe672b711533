package cure_test

import (
	"math/rand/v2"
	"slices"
	"testing"

	"canebrake/api"
	"canebrake/cure"
)

// TestModelRun holds runs against the model, hour by hour (P4.1).
func TestModelRun(t *testing.T) {
	r := chance(1)
	for range 300 {
		b := anyBatch(r, 250)
		spread := among(r, b.Spread.Lo, b.Spread.Hi)
		for hours, want := range modelRun(b, spread, 300) {
			if hours < 20 || hours > 290 || hours%37 == 0 {
				wantRun(t, b, spread, hours, want.Borax, want.Poles...)
			}
		}
		if t.Failed() {
			t.Fatal(b)
		}
	}
}

// about is some hours, and those at which a core is reached at a spread, and those before.
func about(r *rand.Rand, first [][]int) []int {
	hours := []int{0, 1, r.IntN(60), 300}
	for _, at := range first {
		for _, hour := range at {
			if hour < never {
				hours = append(hours, hour, max(0, hour-1))
			}
		}
	}
	return slices.Compact(slices.Sorted(slices.Values(hours)))
}

// TestModelTreated holds what is told of cores against the model (P4.2).
func TestModelTreated(t *testing.T) {
	r := chance(2)
	var known [3]int
	ready, unready := 0, 0
	for range 1500 {
		b := anyBatch(r, []int{1, 2, 12}[r.IntN(3)])
		first := modelFirst(b, 300)
		for _, hours := range about(r, first) {
			want := modelTreated(first, hours)
			wantTreated(t, b, hours, want...)
			for _, k := range want {
				known[k]++
			}
		}
		hours := modelReady(first)
		if hours == never {
			wantReady(t, b, 0, api.ErrNone)
			unready++
		} else {
			wantReady(t, b, hours, api.OK)
			ready++
		}
		if t.Failed() {
			t.Fatal(b)
		}
	}
	if slices.Min(known[:]) < 500 || ready < 200 || unready < 200 {
		t.Error("one kind of answer was hardly met", known, ready, unready)
	}
}

// TestWidest holds the widest Spread against the model (P4.2).
func TestWidest(t *testing.T) {
	r := chance(3)
	for range 12 {
		b := anyBatch(r, 1)
		b.Spread = span(1, 250)
		first := modelFirst(b, 300)
		for _, hours := range []int{0, 5, 50, 300} {
			wantTreated(t, b, hours, modelTreated(first, hours)...)
		}
	}
	// A vat that is strong enough reaches all cores at each spread, if it has the time.
	b := vat(10, 100000, 1, 250, 30, []int{0}, []int{0, 0})
	first := modelFirst(b, 300)
	hours := modelReady(first)
	if hours == never || hours < 5 {
		t.Fatal(hours)
	}
	wantReady(t, b, hours, api.OK)
}

// atSpread tells whether all cores were reached, by a run of each number of hours at a spread.
func atSpread(b api.Batch, spread, hours int) bool {
	got := map[int]bool{}
	for hour := range hours + 1 {
		_, poles, _ := cure.Run(b, spread, hour)
		for pole, cells := range poles {
			if cells[len(cells)-1] >= b.Need {
				got[pole] = true
			}
		}
	}
	return len(got) == len(b.Poles)
}

// TestNoPoleTooEarly runs batches at all spreads for as long as Ready tells, and for an hour less (P4.5).
func TestNoPoleTooEarly(t *testing.T) {
	r := chance(4)
	found := 0
	for found < 150 {
		b := anyBatch(r, 6)
		hours, e := cure.Ready(b)
		if e != api.OK || hours > 60 {
			continue
		}
		late := false
		for spread := b.Spread.Lo; spread <= b.Spread.Hi; spread++ {
			if !atSpread(b, spread, hours) {
				t.Fatal(b, "is not ready at", spread, "after", hours)
			}
			late = late || hours > 0 && !atSpread(b, spread, hours-1)
		}
		if hours > 0 {
			found++
			if !late {
				t.Fatal(b, "is ready before", hours)
			}
			if known, _ := cure.Treated(b, hours-1); !slices.ContainsFunc(known, func(k uint8) bool { return k != api.KnownYes }) {
				t.Fatal(b, "is treated before", hours)
			}
		}
		if known, _ := cure.Treated(b, hours); slices.ContainsFunc(known, func(k uint8) bool { return k != api.KnownYes }) {
			t.Fatal(b, "is not treated after", hours)
		}
	}
}

// TestTreatedStays asks hour by hour: a core that has been reached stays so (P4.2, P4.5).
func TestTreatedStays(t *testing.T) {
	r := chance(5)
	for range 60 {
		b := anyBatch(r, 5)
		before := make([]uint8, len(b.Poles))
		for hours := 0; hours <= 300; hours += among(r, 1, 9) {
			known, e := cure.Treated(b, hours)
			if e != api.OK {
				t.Fatal(b, hours, e)
			}
			for pole := range known {
				if known[pole] < before[pole] {
					t.Fatal(b, hours, known, before)
				}
			}
			before = known
		}
	}
}

// total is the grams in the vat and in all cells, and the least of them.
func total(borax int, poles [][]int) (sum, least int) {
	sum, least = borax, borax
	for _, cells := range poles {
		for _, grams := range cells {
			sum += grams
			least = min(least, grams)
		}
	}
	return sum, least
}

// TestNothingIsLost weighs all borax after each hour (P4.6).
func TestNothingIsLost(t *testing.T) {
	r := chance(6)
	batches := []api.Batch{
		vat(10, 100000, 250, 250, 1, make([]int, 6), make([]int, 6), make([]int, 6), make([]int, 6)),
		vat(10, 40, 250, 250, 1, []int{0}, []int{0}, []int{0}, []int{0}),
		vat(10, 0, 250, 250, 1, []int{1000, 0, 1000}, []int{0, 1000, 0}, []int{0, 1, 0, 1}, []int{3}),
	}
	for range 100 {
		batches = append(batches, anyBatch(r, 20))
	}
	for _, b := range batches {
		want, _ := total(b.Borax, b.Poles)
		for hours := range 301 {
			borax, poles, e := cure.Run(b, b.Spread.Hi, hours)
			if sum, least := total(borax, poles); sum != want || least < 0 || e != api.OK {
				t.Fatal(b, hours, borax, poles, e)
			}
		}
	}
}

// TestRunGoesOn stops runs, and goes on from there (P4.6).
func TestRunGoesOn(t *testing.T) {
	r := chance(7)
	went := 0
	for went < 300 {
		b := anyBatch(r, 250)
		spread, whole := among(r, b.Spread.Lo, b.Spread.Hi), r.IntN(301)
		part := r.IntN(whole + 1)
		next := b
		next.Borax, next.Poles, _ = cure.Run(b, spread, part)
		if cure.Check(next) != api.OK {
			continue
		}
		went++
		borax, poles, _ := cure.Run(next, spread, whole-part)
		wantRun(t, b, spread, whole, borax, poles...)
	}
}

// shuffled is a batch with its poles in another order, which tells where each of them was.
func shuffled(order []int, b api.Batch) api.Batch {
	poles := make([][]int, len(b.Poles))
	for i, was := range order {
		poles[i] = b.Poles[was]
	}
	b.Poles = poles
	return b
}

// TestPolesInAnyOrder puts poles into other orders (P4.7).
func TestPolesInAnyOrder(t *testing.T) {
	r := chance(8)
	for range 300 {
		b := anyBatch(r, 4)
		order := r.Perm(len(b.Poles))
		other := shuffled(order, b)
		hours := r.IntN(100)
		borax, poles, _ := cure.Run(b, b.Spread.Lo, hours)
		after := shuffled(order, api.Batch{Poles: poles})
		wantRun(t, other, b.Spread.Lo, hours, borax, after.Poles...)
		known, _ := cure.Treated(b, hours)
		want := make([]uint8, len(known))
		for i, was := range order {
			want[i] = known[was]
		}
		wantTreated(t, other, hours, want...)
		ready, e := cure.Ready(b)
		wantReady(t, other, ready, e)
	}
	// Poles that are alike take as much, each one.
	_, poles, _ := cure.Run(vat(10, 3001, 250, 250, 1, []int{7, 0}, []int{7, 0}, []int{7, 0}, []int{7, 0}), 250, 9)
	for _, cells := range poles {
		if !slices.Equal(cells, poles[0]) {
			t.Error(poles)
		}
	}
}

// TestModelLevels holds levels against the model, which tries all that may be true (P4.4, P4.8).
func TestModelLevels(t *testing.T) {
	r := chance(9)
	above, below := 0, 0
	for i := range 600 {
		p, drains := anyPond(r, 1001, 8, 60)
		if i%2 == 0 {
			p, drains = anyPond(r, 4, 40, 200)
		} else if i%5 == 0 {
			p, drains = anyPond(r, 30, 3, 100000)
		}
		levels, first := modelLevels(p, drains)
		wantLevels(t, p, drains, first, levels...)
		if t.Failed() {
			t.Fatal(p, drains)
		}
		if first < 0 {
			below++
		} else if first > 0 {
			above++
		}
	}
	if above < 100 || below < 100 {
		t.Error("one kind of answer was hardly met", above, below)
	}
}

// TestEffluentBelowLimit lets any part go on each day, of ponds too large for the model (P4.8).
func TestEffluentBelowLimit(t *testing.T) {
	r := chance(10)
	for range 300 {
		p, drains := anyPond(r, 1001, 40, 100000)
		levels, first, e := cure.Levels(p, drains)
		if e != api.OK {
			t.Fatal(p, drains, e)
		}
		for truth := range 20 {
			level := 0
			for day, drain := range drains {
				part := among(r, p.Out.Lo, p.Out.Hi)
				if truth == 0 {
					part = p.Out.Lo
				} else if truth == 1 {
					part = p.Out.Hi
				}
				level = level - level*part/1000 + drain
				s := levels[day]
				if level < s.Lo || level > s.Hi || truth == 0 && level != s.Hi || truth == 1 && level != s.Lo {
					t.Fatal(p, drains, day, level, levels)
				}
				if level > p.Limit && (first < 0 || day < first) || truth == 0 && day == first && level <= p.Limit {
					t.Fatal(p, drains, day, level, first)
				}
			}
		}
	}
}

// TestModelDry holds days against the model, which tries all that may be true (P4.3, P4.9).
func TestModelDry(t *testing.T) {
	r := chance(11)
	dry, wet := 0, 0
	for i := range 400 {
		d := anyDrying(r, 6)
		if i%10 == 0 {
			d = anyDrying(r, 1001)
			d.Loss = span(max(20, d.Loss.Lo), max(20, d.Loss.Hi))
			d.Most = max(d.Most, 60)
		}
		days := modelDry(d, 365)
		if days == never {
			wantDry(t, d, 0, api.ErrNone)
			wet++
			continue
		}
		wantDry(t, d, days, api.OK)
		if days > 0 {
			dry++
		}
	}
	if dry < 100 || wet < 100 {
		t.Error("one kind of answer was hardly met", dry, wet)
	}
}

// TestDryEnough lets poles lose any part on each day (P4.9).
func TestDryEnough(t *testing.T) {
	r := chance(12)
	for range 2000 {
		d := anyDrying(r, 1001)
		days, e := cure.Dry(d)
		if e == api.ErrNone {
			days = 365
		}
		for truth := range 10 {
			wet := among(r, d.Wet.Lo, d.Wet.Hi)
			if truth == 0 {
				wet = d.Wet.Hi
			}
			for day := range days {
				if truth == 0 && wet <= d.Most {
					t.Fatal(d, "is dry before", days, "days:", day)
				}
				loss := among(r, d.Loss.Lo, d.Loss.Hi)
				if truth == 0 {
					loss = d.Loss.Lo
				}
				wet -= wet * loss / 1000
			}
			if e == api.OK && wet > d.Most || e == api.ErrNone && truth == 0 && wet <= d.Most {
				t.Fatal(d, days, e, wet)
			}
		}
	}
}
