package auction

import (
	"slices"

	"agora/api"
)

// maxSets: of which Slots lets one win.
const maxSets = 16

// Slots lets those of one set win, whose bids are the most together; each of them pays the least bid with which it would win.
func Slots(l []int, sets []int) (winners int, pays []int, e api.Errno) {
	if e := maySlots(l, sets); e != api.OK {
		return 0, nil, e
	}
	winners = wins(l, sets)
	pays = make([]int, len(l))
	for i := range len(l) {
		if has(winners, i) {
			pays[i] = leastBid(l, sets, i)
		}
	}
	return winners, pays, api.OK
}

// maySlots says whether bids, and sets of those who bid, may be.
func maySlots(l, sets []int) api.Errno {
	if e := mayBid(l); e != api.OK {
		return e
	}
	if len(sets) < 1 || len(sets) > maxSets {
		return api.ErrLimit
	}
	for _, set := range sets {
		if set < 0 || set >= 1<<len(l) {
			return api.ErrWho
		}
	}
	return api.OK
}

// wins is the first set whose bids are the most together.
func wins(l, sets []int) int {
	most, winners := -1, 0
	for _, set := range sets {
		if sum := together(l, set); sum > most {
			most, winners = sum, set
		}
	}
	return winners
}

// together is the sum of the bids of a set.
func together(l []int, set int) int {
	sum := 0
	for i, bid := range l {
		if has(set, i) {
			sum += bid
		}
	}
	return sum
}

// leastBid is the least bid with which a winner would still win.
func leastBid(l, sets []int, i int) int {
	bids := slices.Clone(l)
	for bid := range l[i] {
		bids[i] = bid
		if has(wins(bids, sets), i) {
			return bid
		}
	}
	return l[i]
}

// has says whether one is in a set.
func has(set, i int) bool {
	return set>>i&1 == 1
}
