package tree

import (
	"slices"

	"agora/api"
)

// Backward is the choices that are best at each node, the first one of several, all that comes behind being so.
func Backward(t api.Tree) ([]int, api.Errno) {
	if e := May(t); e != api.OK {
		return nil, e
	}
	choices, _ := settle(t, func(at int, kids [][]int) int { return most(kids, t.Nodes[at].Player) })
	return choices, api.OK
}

// Perfect says whether nobody, from any node on, gets more by choosing otherwise: else the first node from which somebody does.
func Perfect(t api.Tree, choices []int) (ok bool, at int, e api.Errno) {
	if e := mayChoose(t, choices); e != api.OK {
		return false, 0, e
	}
	gets := byChoices(t, choices)
	could := make([][][]int, t.Players)
	for who := range t.Players {
		could[who] = bettered(t, choices, who)
	}
	for at := range len(t.Nodes) {
		for who := range t.Players {
			if could[who][at][who] > gets[at][who] {
				return false, at, api.OK
			}
		}
	}
	return true, 0, api.OK
}

// Single says whether nobody gets more by choosing otherwise at one node alone.
func Single(t api.Tree, choices []int) (bool, api.Errno) {
	if e := mayChoose(t, choices); e != api.OK {
		return false, e
	}
	gets := byChoices(t, choices)
	for at, n := range t.Nodes {
		for _, kid := range n.Kids {
			if gets[kid][n.Player] > gets[at][n.Player] {
				return false, api.OK
			}
		}
	}
	return true, api.OK
}

// Force is the most that a player can be sure of, whatever all others do.
func Force(t api.Tree, who int) (int, api.Errno) {
	if e := May(t); e != api.OK {
		return 0, e
	}
	if who < 0 || who >= t.Players {
		return 0, api.ErrWho
	}
	_, gets := settle(t, func(at int, kids [][]int) int {
		if t.Nodes[at].Player == who {
			return most(kids, who)
		}
		return least(kids, who)
	})
	return gets[0][who], api.OK
}

// settle lets the place of a kid be chosen at each player's node, by what all get from each kid on: kids lie behind their node, so that this is known when the nodes are gone through from the end. It says too what all get so, from each node on, in lists that are the tree's own.
func settle(t api.Tree, choose func(at int, kids [][]int) int) (choices []int, gets [][]int) {
	choices, gets = make([]int, len(t.Nodes)), make([][]int, len(t.Nodes))
	for at, n := range slices.Backward(t.Nodes) {
		if len(n.Kids) == 0 {
			gets[at] = n.Pay
			continue
		}
		kids := make([][]int, len(n.Kids))
		for place, kid := range n.Kids {
			kids[place] = gets[kid]
		}
		choices[at] = choose(at, kids)
		gets[at] = kids[choices[at]]
	}
	return choices, gets
}

// byChoices is what all get by choices, from each node on.
func byChoices(t api.Tree, choices []int) [][]int {
	_, gets := settle(t, func(at int, kids [][]int) int { return choices[at] })
	return gets
}

// bettered is what all get, from each node on, if one player chooses the best for it, and the others by choices.
func bettered(t api.Tree, choices []int, who int) [][]int {
	_, gets := settle(t, func(at int, kids [][]int) int {
		if t.Nodes[at].Player == who {
			return most(kids, who)
		}
		return choices[at]
	})
	return gets
}

// most is the place of the first kid from which a player gets the most.
func most(kids [][]int, who int) int {
	best := 0
	for place, get := range kids {
		if get[who] > kids[best][who] {
			best = place
		}
	}
	return best
}

// least is the place of the first kid from which a player gets the least.
func least(kids [][]int, who int) int {
	worst := 0
	for place, get := range kids {
		if get[who] < kids[worst][who] {
			worst = place
		}
	}
	return worst
}
