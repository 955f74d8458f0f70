package agora

import (
	"agora/api"
	"agora/auction"
	"agora/seats"
	"agora/worth"
)

// many: any number of numbers.
const many = -1

// reply answers a line, by the numbers behind its word.
type reply func(n []int) (string, api.Errno)

// question is what a line asks: how many numbers it has, whether what it asks about is there, and what answers it.
type question struct {
	takes int
	there bool
	reply reply
}

// asks gives what a word asks; without a reply, if it asks nothing.
func (h *house) asks(word string) question {
	for _, of := range []func(string) question{h.ofNumbers, h.ofSides, h.ofBallots, h.ofVotes, h.ofWorths, h.ofGame, h.ofBids, h.ofGoods} {
		if q := of(word); q.reply != nil {
			return q
		}
	}
	return question{}
}

// ofNumbers: the words that lay down the numbers behind them.
func (h *house) ofNumbers(word string) question {
	lays := func(down *[]int, may func([]int) api.Errno) reply {
		return func(n []int) (string, api.Errno) {
			e := may(n)
			if e == api.OK {
				*down = n
			}
			return verdict(e), e
		}
	}
	q := question{takes: many, there: true}
	switch word {
	case "votes":
		q.reply = lays(&h.votes, func(n []int) api.Errno { return seats.May(n, 0) })
	case "worths":
		q.reply = lays(&h.worths, func(n []int) api.Errno { _, e := worth.May(n); return e })
	case "bids":
		q.reply = lays(&h.bids, func(n []int) api.Errno { _, _, e := auction.First(n); return e })
	}
	return q
}
