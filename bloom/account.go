package bloom

import (
	"iter"

	"canebrake/api"
)

// Why spans are enough: at a given age of a kind, all genets of one line flower a fixed number of years after the first one of it, and each tale and each Born leaves a span of years. So what is left for the first one is a span; each year of it is one of some truth; and neither other lines nor other kinds change it.

// genet is a genet at work: the Id of the first one of its line, and the years that tales leave it to flower in.
type genet struct {
	api.Genet
	line int
	told api.Span
}

// account is all that is told: the genets, and the ages that tales leave each kind.
type account struct {
	genets []genet
	ages   [api.MaxKind + 1]api.Span
}

// accountOf is only asked of valid genets and tales: each mother is in the list before her daughters.
func accountOf(l []api.Genet, t []api.Tale) account {
	var a account
	for kind := range a.ages {
		a.ages[kind] = api.Span{Lo: api.MinBloom, Hi: api.MaxBloom}
	}
	for _, g := range l {
		line := g.Id
		if mother, ok := a.genetOf(g.Mother); ok {
			line = mother.line
		}
		a.genets = append(a.genets, genet{g, line, anyYear()})
	}
	for _, tale := range t {
		a.hear(tale)
	}
	return a
}

// hear keeps, of the ages or years that are left so far, those that a tale leaves.
func (a *account) hear(t api.Tale) {
	left := sayings()[t.Kind].leaves(t)
	if t.Kind == api.TaleAged {
		a.ages[t.Of] = cut(a.ages[t.Of], left)
		return
	}
	for i, g := range a.genets {
		if g.Id == t.Of {
			a.genets[i].told = cut(g.told, left)
		}
	}
}

func (a account) genetOf(id int) (genet, bool) {
	return first(a.genets, func(g genet) bool { return g.Id == id })
}

// reckoning is how the lines of a kind go at one of its ages: by how many years each genet (by its Id) is away from the first one of its line, and in which years that one (by its Id) can flower.
type reckoning struct {
	age   int
	away  map[int]int
	lines map[int]api.Span
}

// add takes a genet into its line, and tells whether the line does not contradict itself with it.
func (r reckoning) add(g genet) bool {
	years := cut(later(g.Born, r.age), g.told)
	if g.Mother == api.NoMother {
		r.away[g.Id], r.lines[g.line] = 0, years
	} else {
		r.away[g.Id] = r.away[g.Mother] + 1 + r.age
		r.lines[g.line] = cut(r.lines[g.line], later(years, -r.away[g.Id]))
	}
	return !empty(r.lines[g.line])
}

// yearsOf is in which years a genet can flower.
func (r reckoning) yearsOf(g genet) api.Span { return later(r.lines[g.line], r.away[g.Id]) }

// reckonings yields the ages that a kind can have, the least one first.
func (a account) reckonings(kind int) iter.Seq[reckoning] {
	return func(yield func(reckoning) bool) {
	ages:
		for age := a.ages[kind].Lo; age <= a.ages[kind].Hi; age++ {
			r := reckoning{age, map[int]int{}, map[int]api.Span{}}
			for _, g := range a.genets {
				if g.Kind == kind && !r.add(g) {
					continue ages
				}
			}
			if !yield(r) {
				return
			}
		}
	}
}

// leastAge is the least age of a kind by which something is so.
func (a account) leastAge(kind int, so func(reckoning) bool) (reckoning, bool) {
	for r := range a.reckonings(kind) {
		if so(r) {
			return r, true
		}
	}
	return reckoning{}, false
}

// mayBeTrue tells whether there is a truth.
func (a account) mayBeTrue() bool {
	for kind := range a.ages {
		if _, ok := a.leastAge(kind, func(reckoning) bool { return true }); !ok {
			return false
		}
	}
	return true
}

// livesWith is the lives of all genets if one of them flowers in a year, and whether it can.
func (a account) livesWith(g genet, year int) ([]api.Life, bool) {
	var least [api.MaxKind + 1]reckoning
	for kind := range a.ages {
		r, ok := a.leastAge(kind, func(r reckoning) bool {
			return kind != g.Kind || inside(r.yearsOf(g), one(year))
		})
		if !ok {
			return nil, false
		}
		least[kind] = r
	}
	own := least[g.Kind]
	own.lines[g.line] = one(year - own.away[g.Id])
	var lives []api.Life
	for _, w := range a.genets {
		r := least[w.Kind]
		bloom := r.yearsOf(w).Lo
		lives = append(lives, api.Life{Genet: w.Id, Born: bloom - r.age, Bloom: bloom})
	}
	return lives, true
}

// sowing is genets that flower in the same years: those of one line that are as many years away from its first one.
type sowing struct{ line, away int }

// seedOf is how much seed of a kind is needed in a year at most.
func (a account) seedOf(kind, year int) int {
	var most int
	for r := range a.reckonings(kind) {
		most = max(most, a.seedAt(r, kind, year))
	}
	return most
}

// seedAt is how much seed of a kind is needed in a year at most if it has one age. Of each line only one sowing can fall into the year, the one that needs most.
func (a account) seedAt(r reckoning, kind, year int) int {
	seeds := map[sowing]int{}
	most := map[int]int{}
	for _, g := range a.genets {
		if g.Kind == kind && inside(r.yearsOf(g), one(year)) {
			s := sowing{g.line, r.away[g.Id]}
			seeds[s] += g.Seed
			most[g.line] = max(most[g.line], seeds[s])
		}
	}
	total := 0
	for _, n := range most {
		total += n
	}
	return total
}
