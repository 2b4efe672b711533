package clump

import "canebrake/api"

// Why it is enough to go along two ways, that of the least rates and rains and that of the greatest ones: if a grove has at least as many culms of each age as another one of its habit, it gets at least as many shoots, and after the same cut it still has as many of each age. (Of a ripe age as many are left as stood, but at most as many as stood of it and of all older ones, less the cut.) So one way tells the least of everything, the other one the greatest; and a plan is sure if the first of them allows it.

// look tells what the years of a plan bring, up to the first one that is not sure.
func look(now grove, rains []api.Span, plan []int) []api.Ahead {
	var ahead []api.Ahead
	ends := [2]grove{now, now}
	rates := [2]int{now.Rate.Lo, now.Rate.Hi}
years:
	for year, rain := range rains {
		var shoots, stand [2]int
		for i, falls := range [2]int{rain.Lo, rain.Hi} {
			shoots[i] = ends[i].shoots(rates[i], falls)
			left, ok := ends[i].later(shoots[i]).spared(plan[year])
			if !ok {
				break years
			}
			ends[i], stand[i] = left, left.standing()
		}
		ahead = append(ahead, api.Ahead{Shots: between(shoots), Stand: between(stand)})
	}
	return ahead
}

// between is the span from the first number to the second.
func between(ends [2]int) api.Span { return api.Span{Lo: ends[0], Hi: ends[1]} }

// harvest is a plan from some year on, and how many culms are cut by it. It is not sure if there is no plan.
type harvest struct {
	sure  bool
	total int
	plan  [api.MaxPlan]int
}

func (h harvest) worth() int {
	if !h.sure {
		return -1
	}
	return h.total
}

// with is the harvest with what is cut in the year before it.
func (h harvest) with(year, number int) harvest {
	h.plan[year] = number
	h.total += number
	return h
}

// better is the one of two results that is worth more, the first one if both are worth the same.
func better[R any](first, second R, worth func(R) int) R {
	if worth(second) > worth(first) {
		return second
	}
	return first
}

// state is what stands at the beginning of a year to come, where all rates and rains were the least ones.
type state struct {
	year  int
	culms culms
}

// mostOf is the greatest harvest. Numbers are tried from the least one on, and only a greater harvest takes the place of one that was found: so of several plans the first one stays.
func mostOf(now grove, rains []api.Span) harvest {
	seen := map[state]harvest{}
	var from func(s state) harvest
	from = func(s state) harvest {
		if s.year == len(rains) {
			return harvest{sure: true}
		}
		if found, ok := seen[s]; ok {
			return found
		}
		w := grove{now.Habit, s.culms}
		w = w.later(w.shoots(w.Rate.Lo, rains[s.year].Lo))
		var best harvest
		for number := range api.MaxShots + 1 {
			left, ok := w.spared(number)
			if !ok {
				break
			}
			rest := from(state{s.year + 1, left.culms})
			best = better(best, rest.with(s.year, number), harvest.worth)
		}
		seen[s] = best
		return best
	}
	return from(state{0, now.culms})
}
