// Package lists: lists of fractions.
package lists

import (
	"slices"

	"agora/api"
	"agora/exact"
)

// Of is whole numbers as fractions.
func Of(numbers []int) []api.Q {
	var l []api.Q
	for _, n := range numbers {
		l = append(l, exact.Of(n))
	}
	return l
}

// Below says whether one is below 0.
func Below(l []api.Q) bool {
	return slices.ContainsFunc(l, func(q api.Q) bool { return exact.Cmp(q, "0") < 0 })
}

// Share is how much of all together each one is: ErrZero, if there is nothing.
func Share(l []api.Q) ([]api.Q, api.Errno) {
	var parts []api.Q
	all := exact.Sum(l)
	for _, q := range l {
		part, e := exact.Div(q, all)
		if e != api.OK {
			return nil, e
		}
		parts = append(parts, part)
	}
	return parts, api.OK
}
