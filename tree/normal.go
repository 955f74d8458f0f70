package tree

import (
	"slices"

	"agora/api"
)

// Normal is the game of two players in which each chooses all its choices at once.
func Normal(t api.Tree) (api.Game, api.Errno) {
	if e := May(t); e != api.OK {
		return api.Game{}, e
	}
	if t.Players != 2 {
		return api.Game{}, api.ErrCount
	}
	rows, cols := plans(t, 0), plans(t, 1)
	if len(rows) > api.MaxMoves || len(cols) > api.MaxMoves {
		return api.Game{}, api.ErrLimit
	}
	var g api.Game
	for _, row := range rows {
		var first, second []int
		for _, col := range cols {
			pair := [2][]int{row, col}
			end := follow(t, 0, func(at int) int { return pair[t.Nodes[at].Player][at] })
			first, second = append(first, end.Pay[0]), append(second, end.Pay[1])
		}
		g.A, g.B = append(g.A, first), append(g.B, second)
	}
	return g, api.OK
}

// plans are all ways for a player to choose at its nodes, in order: those at its last node go fastest. If there are too many it gives up, and tells as many as it has found: there could be millions.
func plans(t api.Tree, who int) [][]int {
	all := [][]int{make([]int, len(t.Nodes))}
	for at, n := range t.Nodes {
		if len(n.Kids) > 0 && n.Player == who && len(all) <= api.MaxMoves {
			all = grown(all, at, len(n.Kids))
		}
	}
	return all
}

// grown is plans, each with each of so many choices at one node more.
func grown(all [][]int, at, many int) [][]int {
	var l [][]int
	for _, plan := range all {
		for place := range many {
			more := slices.Clone(plan)
			more[at] = place
			l = append(l, more)
		}
	}
	return l
}
