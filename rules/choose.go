package rules

import (
	"iter"
	"slices"

	"agora/api"
)

// lie is one voter's other order, where both have their own.
type lie struct {
	own       [voters]int // the numbers of their orders
	who, says int
}

// Onto says whether a choice rule chooses each thing at times.
func Onto(rule []int) (bool, api.Errno) {
	if e := may(rule, things); e != api.OK {
		return false, e
	}
	for x := range things {
		if !slices.Contains(rule, x) {
			return false, api.OK
		}
	}
	return true, api.OK
}

// Honest says whether nobody gets something better by another order than its own: else the first lie that pays.
func Honest(rule []int) (ok bool, a, b, who, says int, e api.Errno) {
	if e := may(rule, things); e != api.OK {
		return false, 0, 0, 0, 0, e
	}
	known := allOrders()
	for l := range lies() {
		told := l.own
		told[l.who] = l.says
		if above(known[l.own[l.who]], rule[place(told)], rule[place(l.own)]) {
			return false, l.own[0], l.own[1], l.who, l.says, api.OK
		}
	}
	return true, 0, 0, 0, 0, api.OK
}

// lies tells all lies, in order; to tell one's own order is among them, and pays nobody.
func lies() iter.Seq[lie] {
	return func(yield func(lie) bool) {
		for a := range rankings {
			for b := range rankings {
				for who := range voters {
					for says := range rankings {
						if !yield(lie{[voters]int{a, b}, who, says}) {
							return
						}
					}
				}
			}
		}
	}
}

// Choosers says of both voters whether a choice rule always chooses what they rank first.
func Choosers(rule []int) ([2]bool, api.Errno) {
	if e := may(rule, things); e != api.OK {
		return [voters]bool{}, e
	}
	choosers := [voters]bool{true, true}
	for i, p := range profiles() {
		for who := range voters {
			choosers[who] = choosers[who] && rule[i] == p[who][0]
		}
	}
	return choosers, api.OK
}
