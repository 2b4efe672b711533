package weave

import "canebrake/api"

func within(n, least, most int) bool { return least <= n && n <= most }

func validPattern(p api.Pattern) bool {
	return within(p.Wide, 1, api.MaxWeave) && len(p.Over)%p.Wide == 0 && within(len(p.Over)/p.Wide, 1, api.MaxWeave)
}

func validScreen(s api.Screen) bool {
	return within(s.Columns, 1, api.MaxStrips) && within(s.Rows, 1, api.MaxStrips)
}

// closes tells whether a pattern fits to itself where a screen goes round.
func closes(p api.Pattern, s api.Screen) bool { return !s.Round || s.Columns%p.Wide == 0 }

func validGauge(g api.Gauge) bool {
	return within(g.Pitch, 1, api.MaxPitch) && within(g.Bow, 0, api.MaxBow) && within(g.Lap, 0, api.MaxLap) &&
		within(g.Split, 1, api.MaxSplit) && within(g.Grade, 0, api.MaxGrades) && within(g.Buy, 0, api.MaxBuy)
}
