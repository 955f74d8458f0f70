package again

import (
	"slices"

	"agora/api"
	"agora/exact"
)

// places is where both machines are.
type places struct{ first, second int }

// course is what is played: pairs of moves, and behind the last one again those from the round back on, for ever.
type course struct {
	pairs [][2]int
	back  int
}

// play lets two machines play until both are where they were before: from there on all comes again.
func play(first, second api.Machine) course {
	var c course
	rounds := map[places]int{}
	at := places{first.Start, second.Start}
	for {
		if round, there := rounds[at]; there {
			c.back = round
			return c
		}
		rounds[at] = len(c.pairs)
		pair := [2]int{first.Moves[at.first], second.Moves[at.second]}
		c.pairs = append(c.pairs, pair)
		at = places{first.Next[at.first][pair[1]], second.Next[at.second][pair[0]]}
	}
}

// worth is what is paid in all rounds, each counting d times the one ahead of it.
func (c course) worth(pays [][]int, d api.Q) api.Q {
	once, left := total(pays, d, c.pairs[c.back:], "0"), api.Q("1")
	for range c.pairs[c.back:] {
		left = exact.Mul(left, d)
	}
	// What is for ever is once, plus left times what is for ever; left is below 1, as d is.
	ever, _ := exact.Div(once, exact.Sub("1", left))
	return total(pays, d, c.pairs[:c.back], ever)
}

// total is what some rounds pay, if what comes behind them is worth so much.
func total(pays [][]int, d api.Q, pairs [][2]int, behind api.Q) api.Q {
	for _, p := range slices.Backward(pairs) {
		behind = exact.Add(exact.Of(pays[p[0]][p[1]]), exact.Mul(d, behind))
	}
	return behind
}
