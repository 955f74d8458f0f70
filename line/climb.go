package line

import (
	"math/big"
	"slices"
)

// climber goes through a table, swap by swap, until nothing more can be won. It goes as if each bound were a little greater than it is, the first one by far the most, and so on: then each swap wins something, so that no table comes twice.
type climber struct {
	*table
	bound, goal int   // the column of the bounds, the row of what is to be the most
	first       []int // who had the rows at the beginning: theirs are the bounds that are a little greater
}

// swapAt is where owners change places.
type swapAt struct{ row, col int }

// climb takes a table whose bounds are nowhere below 0 to where its goal is the most, and answers -1; or, where it has no most, a column along which it grows for ever.
func (t *table) climb(bound, goal int) int {
	c := climber{t, bound, goal, slices.Clone(t.rows)}
	for {
		s := c.next()
		if s.row < 0 {
			return s.col
		}
		t.swap(s.row, s.col)
	}
}

// next is the swap that wins the most; without a row it is the column along which the goal grows for ever, or -1, if nothing can be won. (To take the first that wins, or the steepest, leads past nearly all corners of some lines.)
func (c climber) next() swapAt {
	best := swapAt{-1, -1}
	for col := range c.cols {
		if c.cells[c.goal][col].Sign() <= 0 {
			continue
		}
		s := c.nearest(col)
		if s.row < 0 {
			return s
		}
		if best.row < 0 || c.compare(s, best) > 0 {
			best = s
		}
	}
	return best
}

// nearest is where a column that grows first meets a bound (row -1: nowhere): what is won least.
func (c climber) nearest(col int) swapAt {
	best := swapAt{-1, col}
	for row := range c.rows {
		s := swapAt{row, col}
		if c.cells[row][col].Sign() < 0 && (best.row < 0 || c.compare(s, best) < 0) {
			best = s
		}
	}
	return best
}

// compare is -1, 0, 1: what one swap wins is less than what the other does, the same, more.
func (c climber) compare(a, b swapAt) int {
	// A swap wins the goal's cell times what is left over the cell where owners meet: both sides are multiplied by what they are divided by.
	timesA, timesB := c.cells[b.row][b.col], c.cells[a.row][a.col]
	if a.col != b.col {
		timesA = new(big.Int).Mul(timesA, c.cells[c.goal][a.col])
		timesB = new(big.Int).Mul(timesB, c.cells[c.goal][b.col])
	}
	winsA, winsB := new(big.Int), new(big.Int)
	for k := range len(c.first) + 1 {
		winsA.Mul(c.left(a.row, k), timesA)
		winsB.Mul(c.left(b.row, k), timesB)
		// The cells where owners meet are below 0, so that the greater side wins less.
		if order := winsB.Cmp(winsA); order != 0 {
			return order
		}
	}
	return 0
}

// left is how far a row's owner is above 0: at the place 0 by the bound itself, behind it by how much each one of the bounds that are a little greater counts.
func (c climber) left(row, place int) *big.Int {
	if place == 0 {
		return c.cells[row][c.bound]
	}
	owner := c.first[place-1]
	if c.rows[row] == owner {
		return c.by
	}
	if col := slices.Index(c.cols, owner); col >= 0 {
		return new(big.Int).Neg(c.cells[row][col])
	}
	return new(big.Int)
}
