package nash

import (
	"slices"

	"agora/api"
	"agora/exact"
	"agora/line"
	"agora/lists"
	"agora/moves"
)

// Obeyed says whether chances of all pairs of moves are such that whoever is told its own move would rather make no other one.
func Obeyed(g api.Game, p [][]api.Q) (bool, api.Errno) {
	if e := May(g); e != api.OK {
		return false, e
	}
	if !fits(g, p) {
		return false, api.ErrState
	}
	chances := slices.Concat(p...)
	if !moves.Mix(chances, len(chances)) {
		return false, api.ErrState
	}
	for _, gain := range gains(g) {
		if exact.Cmp(exact.Dot(lists.Of(gain), chances), "0") > 0 {
			return false, api.OK
		}
	}
	return true, api.OK
}

// fits says whether there is something for each pair of moves.
func fits(g api.Game, p [][]api.Q) bool {
	return len(p) == len(g.A) && !slices.ContainsFunc(p, func(row []api.Q) bool { return len(row) != len(g.A[0]) })
}

// Told is chances that are obeyed, and by which both together get the most.
func Told(g api.Game) ([][]api.Q, api.Errno) {
	if e := May(g); e != api.OK {
		return nil, e
	}
	// Chances are so much of each of some draws: at first each draw is one pair. A line has no room for all gains that there may be, and a row that bounds the chances: a gain that finds none is taken out of the draws.
	draws, all := single(len(g.A)*len(g.A[0])), gains(g)
	for len(all) >= api.MaxRows {
		draws, all = without(draws, all[0]), all[1:]
	}
	best, e := line.Solve(obeying(g, all, draws))
	if e != api.OK {
		return nil, e
	}
	return spread(g, draws, best.X), api.OK
}

// single has a draw for each of so many pairs, in which that pair is once.
func single(pairs int) [][]int {
	draws := make([][]int, pairs)
	for i := range draws {
		draws[i] = make([]int, pairs)
		draws[i][i] = 1
	}
	return draws
}

// without has draws by which nothing is gained: those that were so, and each other one with each one by which something is lost, so often that both come to 0. Whatever gains nothing is so much of each of these: what is gained in it is lost in it too.
func without(draws [][]int, gain []int) [][]int {
	var l [][]int
	for _, draw := range draws {
		won := dot(draw, gain)
		if won <= 0 {
			l = append(l, draw)
			continue
		}
		for _, other := range draws {
			if lost := -dot(other, gain); lost > 0 {
				l = append(l, add(draw, lost, other, won))
			}
		}
	}
	return l
}

// obeying asks how much of each draw to take, so that nothing is gained, the chances are at most 1 together, and both players get the most. They come to just 1: both players get something above 0, as they are lifted, and who gains nothing by some chances gains nothing by twice these.
func obeying(g api.Game, gains, draws [][]int) api.Line {
	var l api.Line
	for _, gain := range gains {
		l.A, l.B = append(l.A, each(draws, gain)), append(l.B, "0")
	}
	all := slices.Repeat([]int{1}, len(draws[0]))
	l.A, l.B = append(l.A, each(draws, all)), append(l.B, "1")
	both := add(slices.Concat(g.A...), 1, slices.Concat(g.B...), 1)
	l.C = each(draws, add(both, 1, all, 2*moves.Lift))
	return l
}

// each is what each draw comes to, by what its pairs count.
func each(draws [][]int, counts []int) []api.Q {
	var l []int
	for _, draw := range draws {
		l = append(l, dot(draw, counts))
	}
	return lists.Of(l)
}

// spread is the chances of all pairs, so much of each draw being taken.
func spread(g api.Game, draws [][]int, much []api.Q) [][]api.Q {
	p := make([][]api.Q, len(g.A))
	for place, pair := range moves.Pairs(g.A) {
		var often []int
		for _, draw := range draws {
			often = append(often, draw[place])
		}
		p[pair[0]] = append(p[pair[0]], exact.Dot(lists.Of(often), much))
	}
	return p
}

func dot(a, b []int) int {
	sum := 0
	for i := range len(a) {
		sum += a[i] * b[i]
	}
	return sum
}

// add is one list so many times, and another one so many times.
func add(a []int, timesA int, b []int, timesB int) []int {
	sum := make([]int, len(a))
	for i := range sum {
		sum[i] = timesA*a[i] + timesB*b[i]
	}
	return sum
}
