package again

import (
	"slices"

	"agora/api"
	"agora/exact"
)

// Reply is a machine with which the first player gets the most against another one: its states are that one's.
func Reply(g api.Game, d api.Q, other api.Machine) (api.Machine, api.Errno) {
	if e := mayRepeat(g, d); e != api.OK {
		return api.Machine{}, e
	}
	if e := mayBeSecond(g, other); e != api.OK {
		return api.Machine{}, e
	}
	return replier{g.A, d, other}.best(), api.OK
}

// replier is a player that knows which machine it plays against: pays is what it gets, for each move of its own, for each one of the other one.
type replier struct {
	pays  [][]int
	d     api.Q
	other api.Machine
}

// best is a machine that gets the most. What the other one will do hangs on its state alone: so there is one move in each of these than which none is better.
func (r replier) best() api.Machine {
	choices := make([]int, len(r.other.Moves))
	for {
		// Each change gets more from some state on, and less from none: so no choices come twice.
		better := r.better(choices)
		if slices.Equal(better, choices) {
			return r.follow(choices)
		}
		choices = better
	}
}

// most is what the best machine gets.
func (r replier) most() api.Q {
	return play(r.best(), r.other).worth(r.pays, r.d)
}

// better is, for each of the other one's states, the move that gets the most, if all later ones are those of choices. Where none gets more than theirs, theirs stays.
func (r replier) better(choices []int) []int {
	better := slices.Clone(choices)
	worth := r.worth(choices)
	for state, next := range r.other.Next {
		most := worth[state]
		for move, to := range next {
			gets := exact.Add(exact.Of(r.pays[move][r.other.Moves[state]]), exact.Mul(r.d, worth[to]))
			if exact.Cmp(gets, most) > 0 {
				better[state], most = move, gets
			}
		}
	}
	return better
}

// worth is what choices get, from each of the other one's states on.
func (r replier) worth(choices []int) []api.Q {
	var l []api.Q
	for state := range r.other.Moves {
		r.other.Start = state
		l = append(l, play(r.follow(choices), r.other).worth(r.pays, r.d))
	}
	return l
}

// follow is a machine that is always in the state that the other one is in, and makes the move that is chosen for it.
func (r replier) follow(choices []int) api.Machine {
	m := api.Machine{Start: r.other.Start, Moves: slices.Clone(choices)}
	for state, move := range choices {
		// In each state the other one has one move: where it would be gone to by the others does not matter.
		m.Next = append(m.Next, slices.Repeat([]int{r.other.Next[state][move]}, len(r.pays[0])))
	}
	return m
}
