package bloom_test

import (
	"iter"
	"math/rand/v2"
	"slices"

	"canebrake/api"
)

// The model of these tests goes through all ages of the kinds that genets have, and through all years in which each genet may grow, and asks of each choice whether it is a truth: it is slow, and shares nothing with the package.

type truth struct {
	ages   [api.MaxKind + 1]int
	blooms []int // in the order of the genets
}

func indexOf(l []api.Genet, id int) int {
	return slices.IndexFunc(l, func(g api.Genet) bool { return g.Id == id })
}

// ageSo tells whether all tales of a kind are so at an age.
func ageSo(t []api.Tale, kind, age int) bool {
	for _, x := range t {
		if x.Kind == api.TaleAged && x.Of == kind && (age < x.From || age > x.To) {
			return false
		}
	}
	return true
}

// bloomSo tells whether all tales of a genet are so if it flowers in a year.
func bloomSo(t []api.Tale, id, year int) bool {
	for _, x := range t {
		if x.Kind == api.TaleAged || x.Of != id {
			continue
		}
		flowered := year <= x.From // by the end of the year From
		switch x.Kind {
		case api.TaleBloomed:
			if year < x.From || year > x.To {
				return false
			}
		case api.TaleLived:
			if flowered {
				return false
			}
		case api.TaleGone:
			if !flowered {
				return false
			}
		}
	}
	return true
}

// modelAges are the ages of a kind by the tales of this kind alone.
func modelAges(t []api.Tale, kind int) []int {
	var l []int
	for age := api.MinBloom; age <= api.MaxBloom; age++ {
		if ageSo(t, kind, age) {
			l = append(l, age)
		}
	}
	return l
}

// truths yields all truths, the ones with lesser ages first, then those in which the first genets flower earlier. Kinds that no genet has get their least age only.
func truths(l []api.Genet, t []api.Tale) iter.Seq[truth] {
	return func(yield func(truth) bool) {
		var ages func(x truth, kind int) bool
		var blooms func(x truth, i int) bool
		ages = func(x truth, kind int) bool {
			if kind > api.MaxKind {
				return blooms(x, 0)
			}
			can := modelAges(t, kind)
			if len(can) > 1 && !slices.ContainsFunc(l, func(g api.Genet) bool { return g.Kind == kind }) {
				can = can[:1]
			}
			for _, age := range can {
				x.ages[kind] = age
				if !ages(x, kind+1) {
					return false
				}
			}
			return true
		}
		blooms = func(x truth, i int) bool {
			if i == len(l) {
				return yield(truth{x.ages, slices.Clone(x.blooms)})
			}
			g := l[i]
			for born := g.Born.Lo; born <= g.Born.Hi; born++ {
				if g.Mother != api.NoMother && born != x.blooms[indexOf(l, g.Mother)]+1 {
					continue
				}
				if bloom := born + x.ages[g.Kind]; bloomSo(t, g.Id, bloom) && !blooms(truth{x.ages, append(x.blooms, bloom)}, i+1) {
					return false
				}
			}
			return true
		}
		ages(truth{}, 0)
	}
}

func modelYears(all []truth, i int) []api.Span {
	var years []int
	for _, x := range all {
		years = append(years, x.blooms[i])
	}
	return spansOf(years)
}

// spansOf are numbers as the fewest spans.
func spansOf(numbers []int) []api.Span {
	var l []api.Span
	slices.Sort(numbers)
	for _, n := range numbers {
		if len(l) > 0 && n <= l[len(l)-1].Hi+1 {
			l[len(l)-1].Hi = n
		} else {
			l = append(l, span(n, n))
		}
	}
	return l
}

// modelTruth is the first truth in which the genet at an index flowers in a year: by the age of its kind, the ages of all kinds, and the years in order.
func modelTruth(l []api.Genet, all []truth, i, year int) []api.Life {
	kind := l[i].Kind
	var best *truth
	for _, x := range all {
		if x.blooms[i] != year {
			continue
		}
		key := slices.Concat([]int{x.ages[kind]}, x.ages[:], x.blooms)
		if best == nil || slices.Compare(key, slices.Concat([]int{best.ages[kind]}, best.ages[:], best.blooms)) < 0 {
			best = &x
		}
	}
	if best == nil {
		return nil
	}
	var lives []api.Life
	for i, g := range l {
		lives = append(lives, api.Life{Genet: g.Id, Born: best.blooms[i] - best.ages[g.Kind], Bloom: best.blooms[i]})
	}
	return lives
}

func modelStore(l []api.Genet, all []truth, year int) int {
	most := 0
	for _, x := range all {
		sum := 0
		for i, g := range l {
			if x.blooms[i] == year {
				sum += g.Seed
			}
		}
		most = max(most, sum)
	}
	return most
}

// possible tells whether there is a truth. It asks kind by kind, as nothing is told of two kinds.
func possible(l []api.Genet, t []api.Tale) bool {
	for kind := range api.MaxKind + 1 {
		var own []api.Genet
		for _, g := range l {
			if g.Kind == kind {
				own = append(own, g)
			}
		}
		found := false
		for range truths(own, t) {
			found = true
			break
		}
		if !found {
			return false
		}
	}
	return true
}

// modelLiars tries all lists of tales, the shorter ones first, and those of the same length in their order. It returns false if there is no truth without any tale.
func modelLiars(l []api.Genet, t []api.Tale) ([]int, bool) {
	for length := range len(t) + 1 {
		var found []int
		ok := false
		var choose func(from int, out []int)
		choose = func(from int, out []int) {
			if ok || len(out)+len(t)-from < length {
				return
			}
			if len(out) == length {
				kept := slices.DeleteFunc(slices.Clone(t), func(x api.Tale) bool { return slices.Contains(out, x.Id) })
				if possible(l, kept) {
					found, ok = out, true
				}
				return
			}
			choose(from+1, append(slices.Clone(out), t[from].Id))
			choose(from+1, out)
		}
		choose(0, nil)
		if ok {
			return found, true
		}
	}
	return nil, false
}

// chance is the same numbers in each run.
func chance(seed uint64) *rand.Rand { return rand.New(rand.NewPCG(seed, 23)) }

func upTo(r *rand.Rand, most int) int { return r.IntN(most + 1) }

// around is a span with a number in it, of years that there are.
func around(r *rand.Rand, n, far int) api.Span {
	return span(max(0, n-upTo(r, far)), min(api.MaxYear, n+upTo(r, far)))
}

// rough is how random accounts are: of which kinds the genets are, how many they are at most, how far off the years are in which they may have grown, whether the ages of their kinds are told, and of how many other tales one is a lie (0: none).
type rough struct {
	kinds      []int
	genets     int
	far        int
	aged       bool
	tales, lie int
}

// anyAccount is genets that lived at some time, and tales of them.
func anyAccount(r *rand.Rand, x rough) ([]api.Genet, []api.Tale) {
	var ages [api.MaxKind + 1]int
	for _, kind := range x.kinds {
		ages[kind] = api.MinBloom + upTo(r, 20)
		if r.IntN(4) == 0 {
			ages[kind] = api.MaxBloom - upTo(r, 20)
		}
	}
	var l []api.Genet
	var blooms []int
	for i := range upTo(r, x.genets) {
		g := api.Genet{Id: 3*i + upTo(r, 2), Kind: x.kinds[r.IntN(len(x.kinds))], Mother: api.NoMother, Seed: upTo(r, 5)}
		born := upTo(r, 60)
		if k := upTo(r, 2*i); k < i && blooms[k] < api.MaxYear {
			g.Kind, g.Mother, born = l[k].Kind, l[k].Id, blooms[k]+1
		}
		g.Born = around(r, born, x.far)
		if g.Mother != api.NoMother && r.IntN(3) == 0 {
			g.Born = span(0, api.MaxYear)
		}
		l, blooms = append(l, g), append(blooms, born+ages[g.Kind])
	}
	var t []api.Tale
	say := func(kind uint8, of, from, to int) {
		t = append(t, api.Tale{Id: 5*len(t) + upTo(r, 4), Of: of, Kind: kind, From: from, To: to})
	}
	if x.aged {
		for _, kind := range x.kinds {
			s := around(r, ages[kind], 2)
			say(api.TaleAged, kind, s.Lo, s.Hi)
		}
	}
	for range upTo(r, x.tales) {
		wrong := 0
		if x.lie > 0 && r.IntN(x.lie) == 0 {
			wrong = r.IntN(31) - 15
		}
		if len(l) == 0 || r.IntN(4) == 0 {
			kind := x.kinds[r.IntN(len(x.kinds))]
			s := around(r, max(0, ages[kind]+wrong), 8)
			say(api.TaleAged, kind, s.Lo, s.Hi)
			continue
		}
		i := r.IntN(len(l))
		year := max(0, blooms[i]+wrong)
		s := around(r, year, 4)
		switch r.IntN(3) {
		case 0:
			say(api.TaleBloomed, l[i].Id, s.Lo, s.Hi)
		case 1:
			say(api.TaleLived, l[i].Id, max(0, s.Lo-1), 0)
		case 2:
			say(api.TaleGone, l[i].Id, s.Hi, 0)
		}
	}
	return l, t
}
