package bloom_test

import (
	"math/rand/v2"
	"slices"
	"testing"

	"canebrake/api"
	"canebrake/bloom"
)

// someAccounts are accounts of three sorts: of two kinds whose ages are told, of one kind whose age is not, and of two kinds without lies.
func someAccounts(r *rand.Rand) ([]api.Genet, []api.Tale) {
	switch r.IntN(3) {
	case 0:
		return anyAccount(r, rough{kinds: []int{0, 9}, genets: 4, far: 2, aged: true, tales: 3, lie: 6})
	case 1:
		return anyAccount(r, rough{kinds: []int{5}, genets: 3, far: 1, tales: 3, lie: 6})
	}
	return anyAccount(r, rough{kinds: []int{3, 4}, genets: 5, far: 1, aged: true, tales: 3})
}

// TestModel holds all that is told against the model (P2.1 to P2.3, P2.5 to P2.7).
func TestModel(t *testing.T) {
	r := chance(1)
	none := 0
	const runs = 300
	for range runs {
		l, s := someAccounts(r)
		all := slices.Collect(truths(l, s))
		if len(all) == 0 {
			none++
			wantFalse(t, l, s)
			continue
		}
		wantAges(t, l, s, all)
		for i := range l {
			wantYears(t, l, s, all, i)
		}
		wantStore(t, l, s, all)
		if t.Failed() {
			t.Fatal(l, s)
		}
	}
	if none == 0 || none > runs/2 {
		t.Error("one kind of answer was hardly met", none)
	}
}

func wantFalse(t *testing.T, l []api.Genet, s []api.Tale) {
	for kind := range api.MaxKind + 1 {
		if ages, e := bloom.Ages(l, s, kind); e != api.ErrFalse || len(ages) != 0 {
			t.Error(kind, ages, e)
		}
	}
	for _, g := range l {
		years, e := bloom.Years(l, s, g.Id)
		lives, f := bloom.Truth(l, s, g.Id, g.Born.Lo+50)
		if e != api.ErrFalse || f != api.ErrFalse || len(years)+len(lives) != 0 {
			t.Error(g.Id, years, lives, e, f)
		}
	}
	if n, e := bloom.Store(l, s, 70); e != api.ErrFalse || n != 0 {
		t.Error(n, e)
	}
}

func wantAges(t *testing.T, l []api.Genet, s []api.Tale, all []truth) {
	for kind := range api.MaxKind + 1 {
		var want []int
		for _, x := range all {
			want = append(want, x.ages[kind])
		}
		if !slices.ContainsFunc(l, func(g api.Genet) bool { return g.Kind == kind }) {
			want = modelAges(s, kind)
		}
		slices.Sort(want)
		if ages, e := bloom.Ages(l, s, kind); e != api.OK || !slices.Equal(ages, slices.Compact(want)) {
			t.Error(kind, ages, e, want)
		}
	}
}

// wantYears asks for a truth of each year, also of those that are not told.
func wantYears(t *testing.T, l []api.Genet, s []api.Tale, all []truth, i int) {
	want := modelYears(all, i)
	years, e := bloom.Years(l, s, l[i].Id)
	if e != api.OK || !slices.Equal(years, want) {
		t.Error(l[i].Id, years, e, want)
		return
	}
	for year := want[0].Lo - 2; year <= want[len(want)-1].Hi+2; year++ {
		lives, e := bloom.Truth(l, s, l[i].Id, year)
		model := modelTruth(l, all, i, year)
		if (e == api.OK) != (model != nil) || (e == api.ErrFalse) != (model == nil) || !slices.Equal(lives, model) {
			t.Error(l[i].Id, year, lives, e, model)
			return
		}
	}
}

func wantStore(t *testing.T, l []api.Genet, s []api.Tale, all []truth) {
	for _, year := range someYears(all) {
		if n, e := bloom.Store(l, s, year); e != api.OK || n != modelStore(l, all, year) {
			t.Error(year, n, e, modelStore(l, all, year))
			return
		}
	}
}

// someYears are years in which something flowers, and the ones beside them; at most about eighty.
func someYears(all []truth) []int {
	years := []int{0, 3150}
	for _, x := range all {
		for _, year := range x.blooms {
			years = append(years, year-1, year, year+1)
		}
	}
	slices.Sort(years)
	years = slices.Compact(years)
	var some []int
	for i := 0; i < len(years); i += 1 + len(years)/80 {
		some = append(some, years[i])
	}
	return some
}

// TestModelLiars tries all lists of liars (P2.4, P2.9).
func TestModelLiars(t *testing.T) {
	r := chance(2)
	var met [5]int
	for range 400 {
		l, s := anyAccount(r, rough{kinds: []int{1, 7}, genets: 4, far: 1, tales: 6, lie: 2})
		want, ok := modelLiars(l, s)
		liars, e := bloom.Liars(l, s)
		if !ok || e != api.OK || !slices.Equal(liars, want) {
			t.Fatal(l, s, liars, e, want, ok)
		}
		met[min(len(liars), 4)]++
	}
	if slices.Contains(met[:4], 0) {
		t.Error("a number of liars was not met", met)
	}
}

// TestLiarsAreNeeded takes liars away, and all lists of fewer tales (P2.9).
func TestLiarsAreNeeded(t *testing.T) {
	r := chance(3)
	hasTruth := func(l []api.Genet, s []api.Tale) bool {
		_, e := bloom.Ages(l, s, 0)
		return e == api.OK
	}
	named := 0
	for range 200 {
		l, s := anyAccount(r, rough{kinds: []int{0, 1, 2}, genets: api.MaxGenets, far: 3, tales: 9, lie: 2})
		liars, e := bloom.Liars(l, s)
		if e != api.OK || !slices.IsSorted(liars) {
			t.Fatal(l, s, liars, e)
		}
		named += len(liars)
		without := slices.DeleteFunc(slices.Clone(s), func(x api.Tale) bool { return slices.Contains(liars, x.Id) })
		if !hasTruth(l, without) || len(without) != len(s)-len(liars) {
			t.Fatal(l, s, liars)
		}
		for set := range 1 << len(s) {
			var out []int
			var kept []api.Tale
			for i, x := range s {
				if set>>i&1 == 1 {
					out = append(out, x.Id)
				} else {
					kept = append(kept, x)
				}
			}
			first := len(out) < len(liars) || len(out) == len(liars) && slices.Compare(out, liars) < 0
			if first && hasTruth(l, kept) {
				t.Fatal(l, s, liars, out)
			}
		}
	}
	if named < 100 {
		t.Error("few liars were named", named)
	}
}

// wide is accounts with as many genets as there may be: too many for the model.
func wide(r *rand.Rand) ([]api.Genet, []api.Tale) {
	return anyAccount(r, rough{kinds: []int{0, 1, 2}, genets: api.MaxGenets, far: 6, aged: r.IntN(2) == 0, tales: 4})
}

// asked is what is told by all calls but Truth and Liars: ages of each kind, years of each genet, and seed.
type asked struct {
	ages  [][]int
	years [][]api.Span
	seed  []int
}

func askAll(l []api.Genet, s []api.Tale) (a asked, e api.Errno) {
	for kind := range api.MaxKind + 1 {
		ages, f := bloom.Ages(l, s, kind)
		a.ages, e = append(a.ages, ages), max(e, f)
	}
	for _, g := range l {
		years, f := bloom.Years(l, s, g.Id)
		a.years, e = append(a.years, years), max(e, f)
	}
	for year := 0; year <= 400; year += 11 {
		n, f := bloom.Store(l, s, year)
		a.seed, e = append(a.seed, n), max(e, f)
	}
	return a, e
}

func (a asked) same(b asked) bool {
	return slices.EqualFunc(a.ages, b.ages, slices.Equal) && slices.EqualFunc(a.years, b.years, slices.Equal) && slices.Equal(a.seed, b.seed)
}

// inSpans tells whether each number of some spans is in one of others.
func inSpans(spans, others []api.Span) bool {
	for _, s := range spans {
		if !slices.ContainsFunc(others, func(o api.Span) bool { return o.Lo <= s.Lo && s.Hi <= o.Hi }) {
			return false
		}
	}
	return true
}

// TestATaleMore adds tales (P2.8).
func TestATaleMore(t *testing.T) {
	r := chance(4)
	var narrower, told int
	for range 60 {
		l, s := wide(r)
		before, e := askAll(l, s)
		if e != api.OK {
			t.Fatal(l, s, e)
		}
		_, others := anyAccount(r, rough{kinds: []int{0, 1, 2}, tales: 1})
		if len(l) > 0 {
			g := l[r.IntN(len(l))]
			years, _ := bloom.Years(l, s, g.Id)
			lo, hi := years[0].Lo, years[len(years)-1].Hi
			from := lo + upTo(r, hi-lo)
			others = append(others, bloomed(0, g.Id, min(from, 3000), min(from+upTo(r, 9), 3000)), lived(0, g.Id, min(from, 3000)), gone(0, g.Id, min(from, 3000)))
			// What is so in all truths changes nothing.
			for _, x := range []api.Tale{bloomed(5000, g.Id, lo, hi), lived(5000, g.Id, lo-1), gone(5000, g.Id, hi)} {
				if hi > api.MaxYear {
					break
				}
				after, e := askAll(l, append(slices.Clone(s), x))
				if e != api.OK || !after.same(before) {
					t.Fatal(l, s, x, e)
				}
				told++
			}
		}
		for _, x := range others {
			x.Id = 5000
			after, e := askAll(l, append(slices.Clone(s), x))
			if e == api.ErrFalse {
				continue
			}
			if e != api.OK || !noWider(after, before) {
				t.Fatal(l, s, x, e)
			}
			if !after.same(before) {
				narrower++
			}
		}
	}
	if narrower == 0 || told == 0 {
		t.Error("no tale changed anything, or no tale was so in all truths", narrower, told)
	}
}

// noWider tells whether nothing is told after that was not told before.
func noWider(after, before asked) bool {
	for kind, ages := range after.ages {
		if slices.ContainsFunc(ages, func(age int) bool { return !slices.Contains(before.ages[kind], age) }) {
			return false
		}
	}
	for i, years := range after.years {
		if !inSpans(years, before.years[i]) {
			return false
		}
	}
	for i, n := range after.seed {
		if n > before.seed[i] {
			return false
		}
	}
	return true
}

// TestOrderOfTales gives the same tales in other orders, under other Ids (P2.8).
func TestOrderOfTales(t *testing.T) {
	r := chance(5)
	for range 60 {
		l, s := anyAccount(r, rough{kinds: []int{0, 1, 2}, genets: api.MaxGenets, far: 6, tales: 8, lie: 12})
		before, e := askAll(l, s)
		liars, _ := bloom.Liars(l, s)
		mixed := slices.Clone(s)
		r.Shuffle(len(mixed), func(i, j int) { mixed[i], mixed[j] = mixed[j], mixed[i] })
		for i := range mixed {
			mixed[i].Id = 7*i + upTo(r, 6)
		}
		after, f := askAll(l, mixed)
		others, _ := bloom.Liars(l, mixed)
		if e != f || !after.same(before) || len(liars) != len(others) {
			t.Fatal(l, s, mixed, e, f, liars, others)
		}
		for _, g := range l {
			for year := g.Born.Lo + 10; year < g.Born.Lo+60; year += 7 {
				a, e := bloom.Truth(l, s, g.Id, year)
				b, f := bloom.Truth(l, mixed, g.Id, year)
				if e != f || !slices.Equal(a, b) {
					t.Fatal(l, s, mixed, g.Id, year, a, b)
				}
			}
		}
	}
}

// TestYearsLater tells all that was told some years later (P2.10).
func TestYearsLater(t *testing.T) {
	r := chance(6)
	moved := 0
	for range 200 {
		l, s := anyAccount(r, rough{kinds: []int{0, 1, 2}, genets: 6, far: 6, tales: 5, lie: 20})
		for i := range l {
			l[i].Born.Hi = min(l[i].Born.Hi, 2000)
		}
		by := 1 + upTo(r, 900)
		m, u := slices.Clone(l), slices.Clone(s)
		for i := range m {
			m[i].Born = span(m[i].Born.Lo+by, m[i].Born.Hi+by)
		}
		for i := range u {
			switch u[i].Kind {
			case api.TaleBloomed:
				u[i].From, u[i].To = u[i].From+by, u[i].To+by
			case api.TaleLived, api.TaleGone:
				u[i].From += by
			}
		}
		for _, g := range l {
			years, e := bloom.Years(l, s, g.Id)
			other, f := bloom.Years(m, u, g.Id)
			for i := range years {
				years[i] = span(years[i].Lo+by, years[i].Hi+by)
				moved++
			}
			if e != f || !slices.Equal(years, other) {
				t.Fatal(l, s, by, g.Id, years, other, e, f)
			}
		}
	}
	if moved == 0 {
		t.Error("no year was told")
	}
}

// TestTruthsAreSo asks the model whether truths of many genets are such, and whether they flower in the years that are told, at their ends and beyond (P2.3, P2.6).
func TestTruthsAreSo(t *testing.T) {
	r := chance(7)
	for range 150 {
		l, s := wide(r)
		for i, g := range l {
			years, e := bloom.Years(l, s, g.Id)
			if e != api.OK {
				t.Fatal(l, s, e)
			}
			for k, x := range years {
				if k > 0 && x.Lo <= years[k-1].Hi+1 {
					t.Fatal(l, s, g.Id, years)
				}
				for _, year := range []int{x.Lo, x.Hi, x.Lo + upTo(r, x.Hi-x.Lo)} {
					lives, e := bloom.Truth(l, s, g.Id, year)
					if e != api.OK || lives[i].Bloom != year || !livesSo(l, s, lives) {
						t.Fatal(l, s, g.Id, year, lives, e)
					}
				}
				for _, year := range []int{x.Lo - 1, x.Hi + 1} {
					if lives, e := bloom.Truth(l, s, g.Id, year); e != api.ErrFalse || len(lives) != 0 {
						t.Fatal(l, s, g.Id, year, lives, e)
					}
				}
			}
		}
	}
}

func livesSo(l []api.Genet, s []api.Tale, lives []api.Life) bool {
	ages := map[int]int{}
	for i, g := range l {
		x := lives[i]
		age, ok := ages[g.Kind]
		if ok && x.Bloom-x.Born != age || x.Genet != g.Id || x.Born < g.Born.Lo || x.Born > g.Born.Hi {
			return false
		}
		age = x.Bloom - x.Born
		ages[g.Kind] = age
		if age < 10 || age > 150 || !ageSo(s, g.Kind, age) || !bloomSo(s, g.Id, x.Bloom) {
			return false
		}
		if g.Mother != api.NoMother && x.Born != lives[indexOf(l, g.Mother)].Bloom+1 {
			return false
		}
	}
	return len(lives) == len(l)
}
