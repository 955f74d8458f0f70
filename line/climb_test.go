package line

import (
	"fmt"
	"slices"
	"testing"

	"agora/api"
)

// die draws numbers that look drawn, the same each time.
type die uint64

func (d *die) n(most int) int {
	*d = *d*6364136223846793005 + 1442695040888963407
	return int(uint64(*d>>33) % uint64(most))
}

func (d *die) list(n, most int) []api.Q {
	var l []api.Q
	for range n {
		l = append(l, api.Q(fmt.Sprint(d.n(2*most+1)-most)))
	}
	return l
}

// line is one whose rows nearly all meet where nothing is won.
func (d *die) line() api.Line {
	rows, unknowns, most := 1+d.n(7), 1+d.n(7), 1+d.n(4)
	l := api.Line{C: d.list(unknowns, most)}
	for range rows {
		l.A, l.B = append(l.A, d.list(unknowns, most)), append(l.B, api.Q(fmt.Sprint(max(0, d.n(8)-6))))
	}
	return l
}

// above says whether a row's owner is above 0, be it only by the bounds that are a little greater.
func (c climber) above(row int) bool {
	for place := range len(c.first) + 1 {
		if sign := c.left(row, place).Sign(); sign != 0 {
			return sign > 0
		}
	}
	return false
}

// climbing climbs as Solve does, and fails where an owner is not above 0, or where two rows are as near as each other: then a table might come twice.
func climbing(t *testing.T, l api.Line, k *table, bound, goal int) {
	t.Helper()
	c := climber{k, bound, goal, slices.Clone(k.rows)}
	for s := c.next(); s.row >= 0; s = c.next() {
		for row := range c.rows {
			if !c.above(row) {
				t.Fatalf("%v: the row %d is not above 0", l, row)
			}
			if c.cells[row][s.col].Sign() < 0 && row != s.row && c.compare(swapAt{row, s.col}, s) != 1 {
				t.Fatalf("%v: the row %d is as near as the row %d", l, row, s.row)
			}
		}
		k.swap(s.row, s.col)
	}
}

func TestL3EachSwapWins(t *testing.T) {
	d := die(16)
	for range 3000 {
		l := d.line()
		k, _ := weighing(l)
		climbing(t, l, k, len(l.B), len(l.C))
		climbing(t, l, k.mirror(), len(l.C), len(l.B)+1)
	}
}
