package vote

import "agora/api"

// Paths is how strong the strongest way from each thing to each is.
func Paths(n int, l []api.Ballot) ([][]int, api.Errno) {
	p, e := Pairs(n, l)
	if e != api.OK {
		return nil, e
	}
	ways := table(n)
	for from := range n {
		for to := range n {
			if beats(p, from, to) {
				ways[from][to] = p[from][to]
			}
		}
	}
	// After each round the ways are the strongest of those that go over no thing behind by.
	for by := range n {
		for from := range n {
			for to := range n {
				if from != to {
					ways[from][to] = max(ways[from][to], min(ways[from][by], ways[by][to]))
				}
			}
		}
	}
	return ways, api.OK
}

// Schulze are the things to which no way is stronger than theirs back.
func Schulze(n int, l []api.Ballot) ([]int, api.Errno) {
	ways, e := Paths(n, l)
	if e != api.OK {
		return nil, e
	}
	var of []int
	for k := range n {
		stands := true
		for other := range n {
			stands = stands && ways[other][k] <= ways[k][other]
		}
		if stands {
			of = append(of, k)
		}
	}
	return of, api.OK
}
