// Package orders: orders of 0, 1, .., n - 1, the best first: which lists are one, and all that there are.
package orders

import (
	"iter"
	"slices"

	"agora/api"
)

// May says whether a list is an order of n.
func May(order []int, n int) api.Errno {
	if len(order) != n {
		return api.ErrCount
	}
	return MaySome(order, n)
}

// MaySome says whether a list has some of n, each at most once.
func MaySome(some []int, n int) api.Errno {
	for i, k := range some {
		if k < 0 || k >= n {
			return api.ErrWho
		}
		if slices.Contains(some[:i], k) {
			return api.ErrDouble
		}
	}
	return api.OK
}

// All tells all orders of n, in order; each is a list of its own.
func All(n int) iter.Seq[[]int] {
	return func(yield func([]int) bool) {
		var grow func(o []int) bool
		grow = func(o []int) bool {
			if len(o) == n {
				return yield(slices.Clone(o))
			}
			for k := range n {
				if !slices.Contains(o, k) && !grow(append(o, k)) {
					return false
				}
			}
			return true
		}
		grow(nil)
	}
}
