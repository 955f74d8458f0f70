package auction

import (
	"slices"

	"agora/api"
)

// May says whether bids for sets may be: nothing is worth nothing, and no set is worth less than one within it.
func May(b api.Bids) api.Errno {
	if b.Items < 0 || b.Items > api.MaxItems {
		return api.ErrLimit
	}
	if len(b.Worth) < 1 || len(b.Worth) > api.MaxBidders {
		return api.ErrCount
	}
	for _, worth := range b.Worth {
		if len(worth) != 1<<b.Items {
			return api.ErrCount
		}
	}
	for _, worth := range b.Worth {
		if e := mayWorth(worth, b.Items); e != api.OK {
			return e
		}
	}
	return api.OK
}

// mayWorth says whether sets may be worth so much to a bidder.
func mayWorth(worth []int, items int) api.Errno {
	for set, value := range worth {
		if value < 0 || value > api.MaxBid || set == 0 && value != 0 {
			return api.ErrValue
		}
		for thing := range items {
			if worth[set&^(1<<thing)] > value {
				return api.ErrState
			}
		}
	}
	return api.OK
}

// Share gives sets so that they are worth the most together; each pays what the others lose by its being there.
func Share(b api.Bids) (api.Sale, api.Errno) {
	if e := May(b); e != api.OK {
		return api.Sale{}, e
	}
	all := 1<<b.Items - 1
	sum, sets := best(b.Worth, all)
	pays := make([]int, len(sets))
	for i, set := range sets {
		without, _ := best(slices.Delete(slices.Clone(b.Worth), i, i+1), all)
		pays[i] = without - (sum - b.Worth[i][set])
	}
	return api.Sale{Sets: sets, Pays: pays}, api.OK
}

// best is the most that the things which are free can be worth to bidders, and the first way to give them so.
func best(worth [][]int, free int) (most int, sets []int) {
	if len(worth) == 0 {
		return 0, nil
	}
	most = -1
	for set := range free + 1 {
		if set&^free != 0 {
			continue
		}
		sum, rest := best(worth[1:], free&^set)
		if sum += worth[0][set]; sum > most {
			most, sets = sum, slices.Insert(rest, 0, set)
		}
	}
	return most, sets
}
