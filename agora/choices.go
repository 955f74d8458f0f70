package agora

import (
	"strconv"

	"agora/api"
	"agora/match"
	"agora/seats"
	"agora/vote"
)

func (h *house) ofSides(word string) question {
	by := func(way func(api.Pairing) ([]int, api.Errno)) reply {
		return func([]int) (string, api.Errno) {
			with, e := way(*h.sides)
			return couples(*h.sides, with), e
		}
	}
	q := question{there: h.sides != nil}
	switch word {
	case "left":
		q.reply = by(match.Left)
	case "right":
		q.reply = by(match.Right)
	case "stable":
		q.reply = func([]int) (string, api.Errno) {
			all, e := match.All(*h.sides)
			return tell("stable", strconv.Itoa(len(all))), e
		}
	}
	return q
}

// couples tells with whom each of the left goes.
func couples(p api.Pairing, with []int) string {
	lines := ""
	for l, r := range with {
		name := "-"
		if r >= 0 {
			name = p.Right[r].Name
		}
		lines += tell(p.Left[l].Name, name)
	}
	return lines
}

func (h *house) ofBallots(word string) question {
	by := func(way func(int, []api.Ballot) ([]int, api.Errno)) reply {
		return func([]int) (string, api.Errno) { return whole(way(things(h.ballots), h.ballots)) }
	}
	q := question{there: h.ballots != nil}
	switch word {
	case "condorcet":
		q.reply = by(condorcet)
	case "borda":
		q.reply = by(vote.Borda)
	case "copeland":
		q.reply = by(vote.Copeland)
	case "smith":
		q.reply = by(vote.Smith)
	case "schulze":
		q.reply = by(vote.Schulze)
	case "runoff":
		q.reply = by(vote.Runoff)
	case "kemeny":
		q.reply = by(vote.Kemeny)
	}
	return q
}

// condorcet gives its one number as a list, so that it is a way like the others.
func condorcet(n int, l []api.Ballot) ([]int, api.Errno) {
	k, e := vote.Condorcet(n, l)
	return []int{k}, e
}

func (h *house) ofVotes(word string) question {
	q := question{takes: 1, there: h.votes != nil}
	switch word {
	case "quota":
		q.reply = func(n []int) (string, api.Errno) { return fractions(seats.Quota(h.votes, n[0])) }
	case "hamilton":
		q.reply = func(n []int) (string, api.Errno) { return whole(seats.Hamilton(h.votes, n[0])) }
	case "divide":
		q.takes = 2
		q.reply = func(n []int) (string, api.Errno) { return whole(seats.Divide(n[0], h.votes, n[1])) }
	}
	return q
}
