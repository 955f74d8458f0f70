package worth

import (
	"slices"

	"agora/api"
	"agora/exact"
	"agora/line"
	"agora/lists"
)

// Core says whether all together get what they are worth, and no set less than it is: else the first set that does (all together: the last set).
func Core(v []int, x []api.Q) (ok bool, set int, e api.Errno) {
	players, e := May(v)
	if e != api.OK {
		return false, 0, e
	}
	if len(x) != players {
		return false, 0, api.ErrCount
	}
	for set := range len(v) {
		order := exact.Cmp(gets(x, set), exact.Of(v[set]))
		if order < 0 || order > 0 && set == len(v)-1 {
			return false, set, api.OK
		}
	}
	return true, 0, api.OK
}

// Balanced says whether weights of all sets show that there is no share in the core.
func Balanced(v []int, weights []api.Q) (bool, api.Errno) {
	players, e := May(v)
	if e != api.OK {
		return false, e
	}
	if len(weights) != len(v) {
		return false, api.ErrCount
	}
	if lists.Below(weights) {
		return false, api.OK
	}
	for p := range players {
		if exact.Cmp(weighs(weights, p), "1") != 0 {
			return false, api.OK
		}
	}
	return exact.Cmp(exact.Dot(weights, lists.Of(v)), exact.Of(v[len(v)-1])) > 0, api.OK
}

// Find is a share in the core; or, if there is none, weights of sets by which each player weighs 1, and that are worth more than all together.
func Find(v []int) (share, weights []api.Q, e api.Errno) {
	players, e := May(v)
	if e != api.OK {
		return nil, nil, e
	}
	a, e := line.Solve(weighing(v, players))
	if e != api.OK {
		return nil, nil, e
	}
	// What shows that the weights are best is the least, beyond what the players are worth alone, by which no set gets less than it is worth.
	for p, more := range a.Y {
		share = append(share, exact.Add(exact.Of(v[only(p)]), more))
	}
	if ok, _, _ := Core(v, share); ok {
		return share, nil, api.OK
	}
	return nil, fill(a.X, players), api.OK
}

// weighing asks for weights of all sets (but that of nobody), by which no player weighs more than 1, and which win the most beyond what the players are worth alone.
func weighing(v []int, players int) api.Line {
	l := api.Line{A: make([][]api.Q, players), B: slices.Repeat([]api.Q{"1"}, players)}
	for set := 1; set < len(v); set++ {
		wins := v[set]
		for p := range players {
			in := exact.Of(set >> p & 1)
			l.A[p] = append(l.A[p], in)
			if has(set, p) {
				wins -= v[only(p)]
			}
		}
		l.C = append(l.C, exact.Of(wins))
	}
	return l
}

// fill has the weights of all sets, where each player alone weighs what it lacks of 1: that wins nothing, and costs nothing.
func fill(x []api.Q, players int) []api.Q {
	weights := append([]api.Q{"0"}, x...)
	for p := range players {
		lacks := exact.Sub("1", weighs(weights, p))
		weights[only(p)] = exact.Add(weights[only(p)], lacks)
	}
	return weights
}

// gets is what a set gets of a share.
func gets(x []api.Q, set int) api.Q {
	return sumOf(x, func(player int) bool { return has(set, player) })
}

// weighs is what the sets with a player weigh together.
func weighs(weights []api.Q, player int) api.Q {
	return sumOf(weights, func(set int) bool { return has(set, player) })
}

// sumOf is the sum of those that stand at the places that count.
func sumOf(l []api.Q, counts func(place int) bool) api.Q {
	sum := exact.Of(0)
	for i, q := range l {
		if counts(i) {
			sum = exact.Add(sum, q)
		}
	}
	return sum
}
