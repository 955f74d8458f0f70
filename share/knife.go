package share

import (
	"slices"

	"agora/api"
	"agora/exact"
)

// Halves lets the first of two guests cut the cake into two that are alike to it, and the other one choose: where it is cut, and which piece (0, 1) the other one takes.
func Halves(d [][]int) (at api.Q, takes int, e api.Errno) {
	if e := Cake(d); e != api.OK {
		return "", 0, e
	}
	if len(d) != 2 {
		return "", 0, api.ErrCount
	}
	at, e = Cut(d[0], "0", part(d[0], 2))
	if exact.Cmp(ahead(d[1], at), part(d[1], 2)) < 0 {
		takes = 1
	}
	return at, takes, e
}

// part is what a guest is to have at least: what all is worth to it, divided by how many there are.
func part(d []int, guests int) api.Q {
	each, _ := exact.Div(ahead(d, end(d)), exact.Of(guests))
	return each
}

// Knife moves a knife along the cake: whoever has had nothing, and to whom what is behind the last cut is worth its part of all, stops it first, and has that; the last one has the rest: of each guest from where to where.
func Knife(d [][]int) ([][2]api.Q, api.Errno) {
	if e := Cake(d); e != api.OK {
		return nil, e
	}
	pieces := make([][2]api.Q, len(d))
	var waiting []int
	for guest := range len(d) {
		waiting = append(waiting, guest)
	}
	last := api.Q("0")
	for len(waiting) > 1 {
		k, at := stops(d, waiting, last)
		pieces[waiting[k]] = [2]api.Q{last, at}
		waiting, last = slices.Delete(waiting, k, k+1), at
	}
	pieces[waiting[0]] = [2]api.Q{last, end(d[0])}
	return pieces, api.OK
}

// stops is which one of those that wait stops the knife, and where.
func stops(d [][]int, waiting []int, last api.Q) (k int, at api.Q) {
	k = -1
	for i, guest := range waiting {
		place, e := Cut(d[guest], last, part(d[guest], len(d)))
		if e != api.OK {
			place = end(d[guest])
		}
		if k < 0 || exact.Cmp(place, at) < 0 {
			k, at = i, place
		}
	}
	return k, at
}
