package vote

import (
	"slices"

	"agora/api"
	"agora/orders"
)

// Runoff lets the thing go that the fewest rank first, again and again: in which order they go; the last one stays.
func Runoff(n int, l []api.Ballot) ([]int, api.Errno) {
	if e := May(n, l); e != api.OK {
		return nil, e
	}
	var gone []int
	for range n {
		gone = append(gone, weakest(n, l, gone))
	}
	return gone, api.OK
}

// weakest is, of the things that have not gone, the one that the fewest rank above all others; of several the last one.
func weakest(n int, l []api.Ballot, gone []int) int {
	left := func(k int) bool { return !slices.Contains(gone, k) }
	votes := make([]int, n)
	for _, b := range l {
		top := slices.IndexFunc(b.Order, left)
		votes[b.Order[top]] += b.Count
	}
	worst := none
	for k := range n {
		if left(k) && (worst == none || votes[k] <= votes[worst]) {
			worst = k
		}
	}
	return worst
}

// Against is how often ballots say otherwise than an order of all things.
func Against(n int, l []api.Ballot, o []int) (int, api.Errno) {
	p, e := Pairs(n, l)
	if e != api.OK {
		return 0, e
	}
	if e := orders.May(o, n); e != api.OK {
		return 0, e
	}
	return against(p, o), api.OK
}

func against(pairs [][]int, o []int) int {
	sum := 0
	for i, above := range o {
		for _, below := range o[i+1:] {
			sum += pairs[below][above]
		}
	}
	return sum
}

// Kemeny is the first order, of all, that the ballots speak against the least.
func Kemeny(n int, l []api.Ballot) ([]int, api.Errno) {
	p, e := Pairs(n, l)
	if e != api.OK {
		return nil, e
	}
	var best []int
	for o := range orders.All(n) {
		if best == nil || against(p, o) < against(p, best) {
			best = o
		}
	}
	return best, api.OK
}
