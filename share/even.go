package share

import (
	"cmp"
	"iter"
	"slices"

	"agora/api"
)

// gain is how good a way to give is: how many guests have something that is worth anything to them, and what theirs is worth, multiplied.
type gain struct {
	guests  int
	product int64
}

// Even gives all goods so that the most guests have something that is worth anything to them, and then so that what theirs is worth, multiplied, is the most: the first such way.
func Even(v [][]int) ([]int, api.Errno) {
	if e := May(v); e != api.OK {
		return nil, e
	}
	var best []int
	var most gain
	for give := range ways(len(v[0]), len(v)) {
		if now := gainOf(v, give); compare(now, most) > 0 {
			best, most = give, now
		}
	}
	return best, api.OK
}

// ways tells all ways to give so many goods to so many guests, in order; each is a list of its own.
func ways(goods, guests int) iter.Seq[[]int] {
	return func(yield func([]int) bool) {
		var grow func(give []int) bool
		grow = func(give []int) bool {
			if len(give) == goods {
				return yield(slices.Clone(give))
			}
			for guest := range guests {
				if !grow(append(give, guest)) {
					return false
				}
			}
			return true
		}
		grow(nil)
	}
}

// gainOf is a gain above the empty one, even if nobody has anything: its product is 1 then.
func gainOf(v [][]int, give []int) gain {
	g := gain{product: 1}
	for i, values := range v {
		if sum, _ := held(values, give, i); sum > 0 {
			g.guests++
			g.product *= int64(sum)
		}
	}
	return g
}

func compare(a, b gain) int {
	return cmp.Or(cmp.Compare(a.guests, b.guests), cmp.Compare(a.product, b.product))
}
