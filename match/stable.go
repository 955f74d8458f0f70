package match

import (
	"slices"

	"agora/api"
	"agora/ranks"
)

// Stable says whether nobody would rather be alone, and no two would rather go with each other: else the first such two (of one alone: it, and -1).
func Stable(p api.Pairing, with []int) (ok bool, left, right int, e api.Errno) {
	if e := May(p); e != api.OK {
		return false, 0, 0, e
	}
	if e := mayBe(p, with); e != api.OK {
		return false, 0, 0, e
	}
	if l := unwilling(p, with); l != nobody {
		return false, l, nobody, api.OK
	}
	if l, r := tempted(p, with); l != nobody {
		return false, l, r, api.OK
	}
	return true, 0, 0, api.OK
}

func mayBe(p api.Pairing, with []int) api.Errno {
	if len(with) != len(p.Left) {
		return api.ErrCount
	}
	for _, r := range with {
		if r < nobody || r >= len(p.Right) {
			return api.ErrWho
		}
	}
	for r, a := range p.Right {
		if count(with, r) > a.Room {
			return api.ErrLimit
		}
	}
	return api.OK
}

// unwilling is the first of the left that goes with one where these do not like each other, or nobody.
func unwilling(p api.Pairing, with []int) int {
	for l, r := range with {
		if r != nobody && !like(p, l, r) {
			return l
		}
	}
	return nobody
}

// tempted are the first two that would rather go with each other (nobody, if there are none), where all that go with each other like each other.
func tempted(p api.Pairing, with []int) (left, right int) {
	for l, a := range p.Left {
		for r, b := range p.Right {
			if like(p, l, r) && rather(a, r, with[l]) && wants(b, with, l, r) {
				return l, r
			}
		}
	}
	return nobody, nobody
}

func like(p api.Pairing, l, r int) bool {
	return ranks.Rank(p.Left[l], r) >= 0 && ranks.Rank(p.Right[r], l) >= 0
}

// wants says whether b, which is r of the right, has room for l or likes it better than one that it has.
func wants(b api.Agent, with []int, l, r int) bool {
	return count(with, r) < b.Room || rather(b, l, worst(b, with, r))
}

// All are all stable ones, in order.
func All(p api.Pairing) ([][]int, api.Errno) {
	if e := May(p); e != api.OK {
		return nil, e
	}
	var all [][]int
	with := allAlone(p)
	var settle func(l int)
	settle = func(l int) {
		if l == len(with) {
			if left, _ := tempted(p, with); left == nobody {
				all = append(all, slices.Clone(with))
			}
			return
		}
		settle(l + 1)
		for r, b := range p.Right {
			if like(p, l, r) && count(with, r) < b.Room {
				with[l] = r
				settle(l + 1)
				with[l] = nobody
			}
		}
	}
	settle(0)
	return all, api.OK
}

// Join gives each of the left the better one of what two give it.
func Join(p api.Pairing, a, b []int) ([]int, api.Errno) {
	return choose(p, a, b, func(one api.Agent, x, y int) bool { return rather(one, y, x) })
}

// Meet gives each of the left the worse one.
func Meet(p api.Pairing, a, b []int) ([]int, api.Errno) {
	return choose(p, a, b, func(one api.Agent, x, y int) bool { return !rather(one, y, x) })
}

// choose gives each of the left what b gives it where second says so, else what a does.
func choose(p api.Pairing, a, b []int, second func(one api.Agent, x, y int) bool) ([]int, api.Errno) {
	if e := May(p); e != api.OK {
		return nil, e
	}
	if e := mayBe(p, a); e != api.OK {
		return nil, e
	}
	if e := mayBe(p, b); e != api.OK {
		return nil, e
	}
	with := slices.Clone(a)
	for l, one := range p.Left {
		if second(one, a[l], b[l]) {
			with[l] = b[l]
		}
	}
	return with, api.OK
}
