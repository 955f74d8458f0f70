package agora

import (
	"slices"

	"agora/api"
	"agora/auction"
	"agora/nash"
	"agora/share"
	"agora/worth"
	"agora/zero"
)

func (h *house) ofWorths(word string) question {
	q := question{there: h.worths != nil}
	switch word {
	case "shapley":
		q.reply = func([]int) (string, api.Errno) { return fractions(worth.Shapley(h.worths)) }
	case "banzhaf":
		q.reply = func([]int) (string, api.Errno) { return fractions(worth.Banzhaf(h.worths)) }
	case "core":
		q.reply = func([]int) (string, api.Errno) {
			share, _, e := worth.Find(h.worths)
			return either(len(share) > 0, "there", "empty"), e
		}
	}
	return q
}

func (h *house) ofGame(word string) question {
	q := question{there: h.game.A != nil}
	switch word {
	case "pure":
		q.reply = func([]int) (string, api.Errno) {
			pairs, e := nash.Pure(h.game)
			return tell(append([]string{"pure"}, each(pairs, pair)...)...), e
		}
	case "zero":
		q.reply = func([]int) (string, api.Errno) {
			value, _, _, e := zero.Solve(h.game.A)
			return tell(fraction(value)), e
		}
	case "nash":
		q.takes = 1
		q.reply = func(n []int) (string, api.Errno) { return calm(h.game, n[0]) }
	}
	return q
}

// calm tells whether what is found for a move is calm.
func calm(g api.Game, free int) (string, api.Errno) {
	m, e := nash.Find(g, free)
	if e != api.OK {
		return "", e
	}
	ok, e := nash.Calm(g, m)
	return either(ok, "calm", "not"), e
}

func (h *house) ofBids(word string) question {
	by := func(way func([]int) (int, int, api.Errno)) reply {
		return func([]int) (string, api.Errno) {
			winner, pays, e := way(h.bids)
			return whole([]int{winner, pays}, e)
		}
	}
	q := question{there: h.bids != nil}
	switch word {
	case "first":
		q.reply = by(auction.First)
	case "second":
		q.reply = by(auction.Second)
	case "clock":
		q.reply = by(auction.Clock)
	}
	return q
}

func (h *house) ofGoods(word string) question {
	q := question{there: h.goods != nil}
	switch word {
	case "turns":
		q.reply = func([]int) (string, api.Errno) { return whole(share.Turns(h.goods)) }
	case "even":
		q.reply = func([]int) (string, api.Errno) { return whole(share.Even(h.goods)) }
	case "circles":
		q.reply = func([]int) (string, api.Errno) { return envy(h.goods) }
	case "knife":
		q.reply = func([]int) (string, api.Errno) {
			pieces, e := share.Knife(h.goods)
			return tell(each(pieces, piece)...), e
		}
	}
	return q
}

// envy tells the most envy that is left, when goods are given so that there is little of it.
func envy(goods [][]int) (string, api.Errno) {
	give, e := share.Circles(goods)
	if e != api.OK {
		return "", e
	}
	all, e := share.Envy(goods, give)
	most := 0
	for _, of := range all {
		most = max(most, slices.Max(of))
	}
	return whole([]int{most}, e)
}
