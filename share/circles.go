package share

import (
	"slices"

	"agora/api"
)

// Circles gives all goods, one after the other, so that there is no envy but for one good.
func Circles(v [][]int) ([]int, api.Errno) {
	if e := May(v); e != api.OK {
		return nil, e
	}
	give := given(v)
	for good := range len(give) {
		// One that nobody envies may get the good: without it there is no envy of that one still. Each change makes some better off and nobody worse: so they come to an end.
		by := enviers(v, give)
		for !slices.Contains(by, nobody) {
			change(give, circle(by))
			by = enviers(v, give)
		}
		give[good] = slices.Index(by, nobody)
	}
	return give, api.OK
}

// enviers is of each guest the first one that envies it, or nobody.
func enviers(v [][]int, give []int) []int {
	by := slices.Repeat([]int{nobody}, len(v))
	for j := range len(v) {
		for i, values := range v {
			if by[j] == nobody && envies(values, give, i, j) > 0 {
				by[j] = i
			}
		}
	}
	return by
}

// circle says of some guests who gets the goods of each one: another one of them, that envies it. Each guest must be envied.
func circle(by []int) map[int]int {
	at := 0
	// The way from each one to who envies it may begin outside of the circle that it ends in, but is in it after so many steps.
	for range len(by) {
		at = by[at]
	}
	gets := map[int]int{}
	for _, there := gets[at]; !there; _, there = gets[at] {
		gets[at] = by[at]
		at = by[at]
	}
	return gets
}

// change hands all goods of each guest in gets to the one that gets them.
func change(give []int, gets map[int]int) {
	for good, was := range give {
		if guest, there := gets[was]; there {
			give[good] = guest
		}
	}
}
