package swap

import (
	"iter"
	"math/bits"
	"slices"

	"agora/api"
)

// step is what the first one that is not used does in a plan with the most gifts.
type step struct {
	chain []int // the round or row that begins at it: empty, if it is left out
	gifts int   // with those of all steps behind this one
	used  int   // who is used then, and who was left out: a bit for each
}

// Most is a plan with the most gifts.
func Most(s api.Swap) (rounds, rows [][]int, e api.Errno) {
	if e := May(s); e != api.OK {
		return nil, nil, e
	}
	found := map[int]step{}
	search(s, 0, found)
	for used := 0; used != everybody(s); used = found[used].used {
		c := found[used].chain
		switch {
		case len(c) == 0:
		case gives(s, c[0]):
			rows = append(rows, c)
		default:
			rounds = append(rounds, c)
		}
	}
	return rounds, rows, api.OK
}

func everybody(s api.Swap) int { return 1<<len(s.Fits) - 1 }

// search is how many gifts there can be among those that are not used; what is best from there on it keeps in found.
func search(s api.Swap, used int, found map[int]step) int {
	if used == everybody(s) {
		return 0
	}
	if known, ok := found[used]; ok {
		return known.gifts
	}
	// Every round can be told from its first one on, and the giver of a row is ahead of all others in it: so nothing is missed if each one in turn begins, or is left out.
	first := bits.TrailingZeros(^uint(used))
	without := used | 1<<first
	best := step{gifts: search(s, without, found), used: without}
	for c := range chains(s, used, first) {
		with := used | setOf(c)
		if n := giftsOf(s, c) + search(s, with, found); n > best.gifts {
			best = step{chain: c, gifts: n, used: with}
		}
	}
	found[used] = best
	return best.gifts
}

// chains tells the rounds that can begin at first among those that are not used, or the rows, if it is a giver; each is a list of its own.
func chains(s api.Swap, used, first int) iter.Seq[[]int] {
	may := mayRound
	if gives(s, first) {
		may = mayRow
	}
	return func(yield func([]int) bool) {
		var grow func(c []int, used int) bool
		grow = func(c []int, used int) bool {
			if len(c) > 1 && may(s, c) && !yield(slices.Clone(c)) {
				return false
			}
			for _, k := range s.Fits[c[len(c)-1]] {
				if used>>k&1 == 0 && !grow(append(c, k), used|1<<k) {
					return false
				}
			}
			return true
		}
		grow([]int{first}, used|1<<first)
	}
}
