package nash

import (
	"slices"

	"agora/api"
	"agora/exact"
	"agora/lists"
	"agora/moves"
)

// half is one player's half of the way to a mix that is calm. All moves have a number: those of the first player, then those of the second one. In a half each number counts something: a move of the player itself, how often it is made; one of the other player, how much it gets less than a best one may (1). In each row what all numbers count, each times its cell, comes to the row's last cell, its bound; the cell of the row's owner is 1, those of other owners are 0. A number that owns no row counts 0.
type half struct {
	owners []int
	cells  [][]api.Q
	ties   []int // places by which rows are told apart: that of the bound, then those of the first owners
}

// Find is a mix that is calm. (free: a move: those of the first player, then those of the second.)
func Find(g api.Game, free int) (api.Mix, api.Errno) {
	if e := May(g); e != api.OK {
		return api.Mix{}, e
	}
	first, second := len(g.A), len(g.A[0])
	if free < 0 || free >= first+second {
		return api.Mix{}, api.ErrWho
	}
	halves := [2]*half{begin(moves.Turn(g.B), 0, first), begin(g.A, first, 0)}
	walk(halves, free, first)
	x, e := halves[0].mix(0, first)
	if e != api.OK {
		return api.Mix{}, e
	}
	y, e := halves[1].mix(first, second)
	if e != api.OK {
		return api.Mix{}, e
	}
	return api.Mix{X: x, Y: y}, api.OK
}

// walk goes from where no move is made at all to where each one is not made or is a best one: its number counts 0 in one of the halves. On the way that is true of all moves but the free one: the one that has just come to 0 in the one half, and so is 0 in both, is let count in the other half. The way has no forks, so that it never comes back to where it was, and ends, where it is true of the free one too.
func walk(halves [2]*half, free, first int) {
	at := 0
	if free >= first {
		at = 1
	}
	for out := halves[at].let(free); out != free; {
		at = 1 - at
		out = halves[at].let(out)
	}
}

// begin is a player's half where no move of it is made. pays: what the other one gets, whose moves are the rows; own, others: the numbers at which the moves of each begin.
func begin(pays [][]int, own, others int) *half {
	all := len(pays) + len(pays[0])
	h := &half{ties: []int{all}}
	for i, row := range moves.Above(pays) {
		cells := slices.Repeat([]api.Q{"0"}, all+1)
		copy(cells[own:], row)
		cells[others+i], cells[all] = "1", "1"
		h.cells = append(h.cells, cells)
		h.owners = append(h.owners, others+i)
		h.ties = append(h.ties, others+i)
	}
	return h
}

// let lets a number count as much as it may, so that another one comes to 0, and owns a row no more: out.
func (h *half) let(in int) (out int) {
	r := h.nearest(in)
	out, h.owners[r] = h.owners[r], in
	row, by := h.cells[r], h.cells[r][in]
	for c, cell := range row {
		row[c], _ = exact.Div(cell, by)
	}
	for i, other := range h.cells {
		if i != r {
			take(other, row, other[in])
		}
	}
	return out
}

// take takes a row, so many times, from another one.
func take(from, row []api.Q, times api.Q) {
	for c, cell := range row {
		from[c] = exact.Sub(from[c], exact.Mul(times, cell))
	}
}

// nearest is the row whose owner comes to 0 first, if a number counts more and more. One there always is: as all payments are above 0, the bounds leave nothing to grow for ever.
func (h *half) nearest(in int) int {
	best := -1
	for r, row := range h.cells {
		if exact.Cmp(row[in], "0") > 0 && (best < 0 || h.nearer(row, h.cells[best], in)) {
			best = r
		}
	}
	return best
}

// nearer says which of two rows comes to 0 first, as if each bound were a little greater than it is, the first one by far the most, and so on: so no two come at once, and the way has no forks.
func (h *half) nearer(row, than []api.Q, in int) bool {
	for _, c := range h.ties {
		if order := exact.Cmp(exact.Mul(row[c], than[in]), exact.Mul(than[c], row[in])); order != 0 {
			return order < 0
		}
	}
	return false
}

// mix is how often the player makes its moves, whose numbers begin with first.
func (h *half) mix(first, many int) ([]api.Q, api.Errno) {
	often := slices.Repeat([]api.Q{"0"}, many)
	for r, k := range h.owners {
		if k >= first && k < first+many {
			often[k-first] = h.cells[r][len(h.cells[r])-1]
		}
	}
	return lists.Share(often)
}
