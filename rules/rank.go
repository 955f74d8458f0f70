package rules

import "agora/api"

// made is what an order rule makes of each profile.
func made(rule []int) ([places]order, api.Errno) {
	var all [places]order
	if e := may(rule, rankings); e != api.OK {
		return all, e
	}
	known := allOrders()
	for i, k := range rule {
		all[i] = known[k]
	}
	return all, api.OK
}

// Agrees says whether an order rule rankings as both do, where they agree.
func Agrees(rule []int) (bool, api.Errno) {
	m, e := made(rule)
	if e != api.OK {
		return false, e
	}
	both := [voters]bool{true, true}
	for i, p := range profiles() {
		for x, y := range pairs() {
			if p.answers(x, y) == both && !above(m[i], x, y) {
				return false, api.OK
			}
		}
	}
	return true, api.OK
}

// Apart says whether how an order rule rankings two things hangs on how both rank these two alone.
func Apart(rule []int) (bool, api.Errno) {
	m, e := made(rule)
	if e != api.OK {
		return false, e
	}
	all := profiles()
	for x, y := range pairs() {
		for i, p := range all {
			for k, q := range all[:i] {
				if p.answers(x, y) == q.answers(x, y) && above(m[i], x, y) != above(m[k], x, y) {
					return false, api.OK
				}
			}
		}
	}
	return true, api.OK
}

// Rulers says of both voters whether an order rule always rankings as they do.
func Rulers(rule []int) ([2]bool, api.Errno) {
	m, e := made(rule)
	if e != api.OK {
		return [voters]bool{}, e
	}
	rulers := [voters]bool{true, true}
	for i, p := range profiles() {
		for who := range voters {
			rulers[who] = rulers[who] && m[i] == p[who]
		}
	}
	return rulers, api.OK
}
