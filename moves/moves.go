// Package moves: two players, of whom each makes one of some moves: all pairs of moves, mixes of them, and what is paid. (The first player's moves are the rows of what is paid, the second one's the columns.)
package moves

import (
	"agora/api"
	"agora/exact"
	"agora/lists"
)

// Lift is what payments need to be above 0, all of them. Who gets so much more in any case chooses as before.
const Lift = api.MaxPay + 1

// Pairs are all pairs of moves, in order.
func Pairs(a [][]int) [][2]int {
	var l [][2]int
	for row := range len(a) {
		for col := range len(a[row]) {
			l = append(l, [2]int{row, col})
		}
	}
	return l
}

// Turn lets the players change places: rows become columns.
func Turn(a [][]int) [][]int {
	turned := make([][]int, len(a[0]))
	for _, p := range Pairs(a) {
		turned[p[1]] = append(turned[p[1]], a[p[0]][p[1]])
	}
	return turned
}

// Above is payments, each greater by Lift, as fractions.
func Above(a [][]int) [][]api.Q {
	rows := make([][]api.Q, len(a))
	for _, p := range Pairs(a) {
		rows[p[0]] = append(rows[p[0]], exact.Of(a[p[0]][p[1]]+Lift))
	}
	return rows
}

// Mix says whether a list is how often each of so many moves is made.
func Mix(l []api.Q, many int) bool {
	return len(l) == many && !lists.Below(l) && exact.Cmp(exact.Sum(l), "1") == 0
}

// Average is what each row pays by a mix of the columns.
func Average(a [][]int, mix []api.Q) []api.Q {
	var l []api.Q
	for _, row := range a {
		l = append(l, exact.Dot(lists.Of(row), mix))
	}
	return l
}
