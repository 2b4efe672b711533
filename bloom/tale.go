package bloom

import "canebrake/api"

// saying is what all tales of one kind have in common: whether there is what one tells of, whether it has the numbers that it needs, and which ages or years it leaves.
type saying struct {
	known  func(l []api.Genet, of int) bool
	formed func(t api.Tale) bool
	leaves func(t api.Tale) api.Span
}

// sayings are those of all kinds of tales, by their numbers. There is none of the number 0.
func sayings() [api.TaleAged + 1]saying {
	return [...]saying{
		api.TaleBloomed: {knownGenet, hasTwo, between},
		api.TaleLived:   {knownGenet, hasOne, after},
		api.TaleGone:    {knownGenet, hasOne, until},
		api.TaleAged:    {knownKind, hasTwo, between},
	}
}

func knownGenet(l []api.Genet, of int) bool {
	_, ok := genetWith(l, of)
	return ok
}

func knownKind(_ []api.Genet, of int) bool { return inside(upTo(api.MaxKind), one(of)) }

func hasOne(t api.Tale) bool { return inside(upTo(api.MaxYear), one(t.From)) && t.To == 0 }

func hasTwo(t api.Tale) bool { return inside(upTo(api.MaxYear), between(t)) }

func between(t api.Tale) api.Span { return api.Span{Lo: t.From, Hi: t.To} }

func after(t api.Tale) api.Span { return api.Span{Lo: t.From + 1, Hi: anyYear().Hi} }

func until(t api.Tale) api.Span { return upTo(t.From) }
