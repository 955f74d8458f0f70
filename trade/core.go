package trade

import (
	"slices"

	"agora/api"
	"agora/orders"
)

// Core says whether no traders can do better with their own things: that each of them has something no worse, and one of them something better. Else the first such set, bit by bit.
func Core(wishes [][]int, got []int) (ok bool, who int, e api.Errno) {
	if e := May(wishes); e != api.OK {
		return false, 0, e
	}
	if e := orders.May(got, len(wishes)); e != api.OK {
		return false, 0, e
	}
	for set := range 1 << len(wishes) {
		if better(wishes, got, set) {
			return false, set, api.OK
		}
	}
	return true, 0, api.OK
}

// better says whether those of a set can share out their own things so that none has a worse one than it got, and one a better one.
func better(wishes [][]int, got []int, set int) bool {
	var deal func(k, left int, gain bool) bool
	deal = func(k, left int, gain bool) bool {
		if k == len(wishes) {
			return gain
		}
		if set>>k&1 == 0 {
			return deal(k+1, left, gain)
		}
		own := slices.Index(wishes[k], got[k])
		for i, thing := range wishes[k][:own+1] {
			if left>>thing&1 == 1 && deal(k+1, left&^(1<<thing), gain || i < own) {
				return true
			}
		}
		return false
	}
	return deal(0, set, false)
}
