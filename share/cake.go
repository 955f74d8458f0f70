package share

import (
	"agora/api"
	"agora/exact"
)

// Cake says whether a cake may be: of each guest how much each slice is worth to it, everywhere in it alike.
func Cake(d [][]int) api.Errno {
	return mayBe(d, 1, api.MaxSlices)
}

// Worth is what a cake is worth to one from a place to another; slices are of length 1.
func Worth(d []int, from, to api.Q) (api.Q, api.Errno) {
	if e := Cake([][]int{d}); e != api.OK {
		return "", e
	}
	// The one is held against the other, too: so neither is below 0 or behind the end.
	if exact.Cmp(from, "0") < 0 || exact.Cmp(from, to) > 0 || exact.Cmp(to, end(d)) > 0 {
		return "", api.ErrValue
	}
	return exact.Sub(ahead(d, to), ahead(d, from)), api.OK
}

// end is the last place.
func end(d []int) api.Q {
	return exact.Of(len(d))
}

// ahead is what all ahead of a place is worth.
func ahead(d []int, place api.Q) api.Q {
	sum := api.Q("0")
	for i, value := range d {
		length := exact.Sub(place, exact.Of(i))
		if exact.Cmp(length, "0") <= 0 {
			break
		}
		if exact.Cmp(length, "1") > 0 {
			length = "1"
		}
		sum = exact.Add(sum, exact.Mul(exact.Of(value), length))
	}
	return sum
}

// Cut is the first place up to which, from another one on, the cake is worth so much.
func Cut(d []int, from, worth api.Q) (api.Q, api.Errno) {
	all, e := Worth(d, from, end(d))
	switch {
	case e != api.OK:
		return "", e
	case exact.Cmp(worth, "0") < 0:
		return "", api.ErrValue
	case exact.Cmp(all, worth) < 0:
		return "", api.ErrState
	case exact.Cmp(worth, "0") == 0:
		return exact.Norm(from), api.OK
	}
	return first(d, exact.Add(ahead(d, from), worth)), api.OK
}

// first is the first place ahead of which all is worth so much: more than nothing, and no more than the whole cake.
func first(d []int, worth api.Q) api.Q {
	slice := 0
	for exact.Cmp(ahead(d, exact.Of(slice+1)), worth) < 0 {
		slice++
	}
	missing := exact.Sub(worth, ahead(d, exact.Of(slice)))
	// A slice that is worth nothing is not the one in which something is reached.
	length, _ := exact.Div(missing, exact.Of(d[slice]))
	return exact.Add(exact.Of(slice), length)
}
