package bloom

import (
	"slices"

	"canebrake/api"
)

// first is the first one of some things of which something is so, and whether there is one.
func first[T any](things []T, so func(T) bool) (found T, ok bool) {
	i := slices.IndexFunc(things, so)
	if i < 0 {
		return found, false
	}
	return things[i], true
}

func genetWith(l []api.Genet, id int) (api.Genet, bool) {
	return first(l, func(g api.Genet) bool { return g.Id == id })
}

// byId tells whether Ids are within their range, and each one is above the one before it.
func byId[T any](things []T, id func(T) int) bool {
	last := -1
	for _, x := range things {
		if id(x) <= last || id(x) > api.MaxId {
			return false
		}
		last = id(x)
	}
	return true
}

func validGenets(l []api.Genet) bool {
	if len(l) > api.MaxGenets || !byId(l, func(g api.Genet) int { return g.Id }) {
		return false
	}
	_, wrong := first(l, func(g api.Genet) bool { return !validGenet(g, l) })
	return !wrong
}

func validGenet(g api.Genet, l []api.Genet) bool {
	return inside(upTo(api.MaxKind), one(g.Kind)) &&
		inside(upTo(api.MaxYear), g.Born) &&
		inside(upTo(api.MaxSeed), one(g.Seed)) &&
		(g.Mother == api.NoMother || validMother(g, l))
}

func validMother(g api.Genet, l []api.Genet) bool {
	mother, ok := genetWith(l, g.Mother)
	return ok && mother.Kind == g.Kind && mother.Id < g.Id
}

func validTales(t []api.Tale, l []api.Genet) bool {
	if len(t) > api.MaxTales || !byId(t, func(x api.Tale) int { return x.Id }) {
		return false
	}
	_, wrong := first(t, func(x api.Tale) bool { return !validTale(x, l) })
	return !wrong
}

func validTale(t api.Tale, l []api.Genet) bool {
	if t.Kind < api.TaleBloomed || t.Kind > api.TaleAged {
		return false
	}
	s := sayings()[t.Kind]
	return s.known(l, t.Of) && s.formed(t)
}
