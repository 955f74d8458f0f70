package agora

import (
	"slices"
	"strings"

	"agora/api"
	"agora/match"
	"agora/nash"
	"agora/ranks"
	"agora/share"
	"agora/vote"
)

// house is what is laid down so far. None of it but the sides can be empty once it is: so nil says that it was not laid down.
type house struct {
	sides   *api.Pairing
	ballots []api.Ballot
	game    api.Game
	goods   [][]int
	votes   []int
	worths  []int
	bids    []int
}

// begins gives what lays down the lines behind this one; nil, if it is no line that begins something.
func (h *house) begins(line string) func(lines []string) api.Errno {
	switch line {
	case "sides":
		return h.laySides
	case "ballots":
		return ofRows(h.layBallots)
	case "game":
		return ofRows(h.layGame)
	case "goods":
		return ofRows(h.layGoods)
	}
	return nil
}

// ofRows lays down lines that are rows of numbers.
func ofRows(lay func(rows [][]int) api.Errno) func(lines []string) api.Errno {
	return func(lines []string) api.Errno {
		l, ok := rows(lines)
		if !ok {
			return api.ErrWord
		}
		return lay(l)
	}
}

func (h *house) laySides(lines []string) api.Errno {
	p, e := ranks.Parse(strings.Join(lines, "\n"))
	if e != api.OK {
		return e
	}
	if e := match.May(p); e != api.OK {
		return e
	}
	h.sides = &p
	return api.OK
}

func (h *house) layBallots(rows [][]int) api.Errno {
	var l []api.Ballot
	for _, row := range rows {
		if len(row) == 0 {
			return api.ErrCount
		}
		l = append(l, api.Ballot{Count: row[0], Order: row[1:]})
	}
	if len(l) == 0 {
		return api.ErrCount
	}
	if e := vote.May(things(l), l); e != api.OK {
		return e
	}
	h.ballots = l
	return api.OK
}

// things is how many the first ballot ranks.
func things(l []api.Ballot) int { return len(l[0].Order) }

func (h *house) layGame(rows [][]int) api.Errno {
	var g api.Game
	for _, row := range rows {
		if len(row)%2 != 0 {
			return api.ErrCount
		}
		var a, b []int
		for both := range slices.Chunk(row, 2) {
			a, b = append(a, both[0]), append(b, both[1])
		}
		g.A, g.B = append(g.A, a), append(g.B, b)
	}
	if e := nash.May(g); e != api.OK {
		return e
	}
	h.game = g
	return api.OK
}

func (h *house) layGoods(rows [][]int) api.Errno {
	if e := share.May(rows); e != api.OK {
		return e
	}
	h.goods = rows
	return api.OK
}
