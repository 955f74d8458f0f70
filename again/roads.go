package again

import (
	"slices"

	"agora/api"
)

// Roads says whether roads may be.
func Roads(r api.Roads) api.Errno {
	players, roads := len(r.Choices), len(r.Costs)
	if players < 1 || players > api.MaxPlayers || roads > api.MaxRoads {
		return api.ErrCount
	}
	for _, costs := range r.Costs {
		if len(costs) != players {
			return api.ErrCount
		}
		if slices.ContainsFunc(costs, func(each int) bool { return each < -api.MaxPay || each > api.MaxPay }) {
			return api.ErrValue
		}
	}
	for _, choices := range r.Choices {
		if len(choices) < 1 || len(choices) > api.MaxMoves {
			return api.ErrCount
		}
		if slices.ContainsFunc(choices, func(set int) bool { return set < 0 || set >= 1<<roads }) {
			return api.ErrWho
		}
	}
	return api.OK
}

// Cost is what each one's roads cost it.
func Cost(r api.Roads, at []int) ([]int, api.Errno) {
	if e := mayBeAt(r, at); e != api.OK {
		return nil, e
	}
	var l []int
	for player := range at {
		l = append(l, cost(r, at, player))
	}
	return l, api.OK
}

// Height is, of each road, what it would cost if they came one after the other, all together.
func Height(r api.Roads, at []int) (int, api.Errno) {
	if e := mayBeAt(r, at); e != api.OK {
		return 0, e
	}
	sum := 0
	for road, many := range taken(r, at) {
		for _, each := range r.Costs[road][:many] {
			sum += each
		}
	}
	return sum, api.OK
}

// Settle lets the first one who can do better take the first choice that is best for it, again and again, until nobody can: all that is gone through.
func Settle(r api.Roads, at []int) ([][]int, api.Errno) {
	if e := mayBeAt(r, at); e != api.OK {
		return nil, e
	}
	all := [][]int{slices.Clone(at)}
	for next := change(r, at); next != nil; next = change(r, next) {
		all = append(all, next)
	}
	return all, api.OK
}

// mayBeAt says whether roads may be, and all players may be there.
func mayBeAt(r api.Roads, at []int) api.Errno {
	if e := Roads(r); e != api.OK {
		return e
	}
	if len(at) != len(r.Choices) {
		return api.ErrCount
	}
	for player, choice := range at {
		if choice < 0 || choice >= len(r.Choices[player]) {
			return api.ErrValue
		}
	}
	return api.OK
}

// taken is, of each road, how many take it.
func taken(r api.Roads, at []int) []int {
	many := make([]int, len(r.Costs))
	for player, choice := range at {
		for road := range many {
			many[road] += r.Choices[player][choice] >> road & 1
		}
	}
	return many
}

// cost is what a player's roads cost it.
func cost(r api.Roads, at []int, player int) int {
	sum := 0
	for road, many := range taken(r, at) {
		if r.Choices[player][at[player]]>>road&1 == 1 {
			sum += r.Costs[road][many-1]
		}
	}
	return sum
}

// change is where all are when the first player that can pay less has gone to where it pays the least; nil, if nobody can.
func change(r api.Roads, at []int) []int {
	for player := range at {
		if best := cheapest(r, at, player); best != at[player] {
			next := slices.Clone(at)
			next[player] = best
			return next
		}
	}
	return nil
}

// cheapest is the first choice by which a player pays the least; where it is, if none is cheaper.
func cheapest(r api.Roads, at []int, player int) int {
	best, least := at[player], cost(r, at, player)
	other := slices.Clone(at)
	for choice := range r.Choices[player] {
		other[player] = choice
		if pays := cost(r, other, player); pays < least {
			best, least = choice, pays
		}
	}
	return best
}
