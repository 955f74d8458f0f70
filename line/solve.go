package line

import (
	"math/big"

	"agora/api"
	"agora/exact"
)

// Solve is the best of a line, or what shows that there is none.
func Solve(l api.Line) (api.Answer, api.Errno) {
	if e := May(l); e != api.OK {
		return api.Answer{}, e
	}
	unknowns, rows := len(l.C), len(l.B)
	t, times := weighing(l)
	// Either rows can be weighed, more and more, so that they can't all be held; or the climb ends where the bounds of the mirror, the line's own table, are nowhere below 0.
	if c := t.climb(rows, unknowns); c >= 0 {
		return api.Answer{Kind: api.Never, Y: tell(t.along(c, unknowns, rows), times[:rows], t.by)}, api.OK
	}
	t = t.mirror()
	c := t.climb(unknowns, rows+1)
	x := tell(t.along(unknowns, 0, unknowns), ones(unknowns), t.by)
	if c >= 0 {
		return api.Answer{Kind: api.Ever, X: x, Y: tell(t.along(c, 0, unknowns), ones(unknowns), t.by)}, api.OK
	}
	y := t.mirror().along(rows+1, unknowns, rows)
	return api.Answer{Kind: api.Best, X: x, Y: tell(y, times[:rows], new(big.Int).Mul(t.by, times[rows]))}, api.OK
}

// weighing is the table of how rows can be weighed (the mirror of the line's own), and by what each row, and C behind them, was multiplied to be whole. A row of the table is an unknown, of the number it has in C; a column is a row of A, whose number goes on from there. In the column of bounds stands 1, whatever C is, so that to weigh nothing may be; C stands behind it.
func weighing(l api.Line) (*table, []*big.Int) {
	unknowns, rows := len(l.C), len(l.B)
	t := &table{by: big.NewInt(1)}
	columns := make([][]*big.Int, rows+2)
	times := make([]*big.Int, rows+1)
	for i, row := range l.A {
		columns[i], times[i] = whole(append(row[:unknowns:unknowns], l.B[i]))
		columns[i][unknowns].Neg(columns[i][unknowns])
		t.cols = append(t.cols, unknowns+i)
	}
	columns[rows] = append(ones(unknowns), new(big.Int))
	columns[rows+1], times[rows] = whole(append(l.C[:unknowns:unknowns], "0"))
	for j := range unknowns + 1 {
		row := make([]*big.Int, rows+2)
		for i := range row {
			row[i] = columns[i][j]
		}
		row[rows+1].Neg(row[rows+1])
		t.cells = append(t.cells, row)
	}
	for j := range unknowns {
		t.rows = append(t.rows, j)
	}
	return t, times
}

// whole is what a list becomes if it is multiplied by the least number that makes it whole, and that number.
func whole(l []api.Q) ([]*big.Int, *big.Int) {
	times := big.NewInt(1)
	fractions := make([]big.Rat, len(l))
	for i, q := range l {
		fractions[i].SetString(string(exact.Norm(q))) // in lowest terms its reader knows all that there is
		down := fractions[i].Denom()
		common := new(big.Int).GCD(nil, nil, times, down)
		times.Mul(times, common.Quo(down, common))
	}
	numbers := make([]*big.Int, len(l))
	for i := range fractions {
		numbers[i] = new(big.Int).Quo(times, fractions[i].Denom())
		numbers[i].Mul(numbers[i], fractions[i].Num())
	}
	return numbers, times
}

// tell is numbers, each multiplied by its own times and divided by the same, as fractions.
func tell(numbers, times []*big.Int, by *big.Int) []api.Q {
	l := make([]api.Q, len(numbers))
	for i, n := range numbers {
		up := new(big.Int).Mul(n, times[i])
		l[i] = api.Q(new(big.Rat).SetFrac(up, by).RatString())
	}
	return l
}

func ones(n int) []*big.Int {
	l := make([]*big.Int, n)
	for i := range l {
		l[i] = big.NewInt(1)
	}
	return l
}
