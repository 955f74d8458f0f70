package line

import (
	"math/big"
	"slices"
)

// table says how much the owners of rows are, by how much the owners of columns are (0, until they get a row): by times the one that has a row is the sum of the row's cells times those that have the columns. Behind the owned columns stand some that count just once (bounds), behind the owned rows some for sums of which the most is wanted (goals). That all is divided by the same number, above 0, lets the cells be whole: no fraction has to be brought to lowest terms on the way.
type table struct {
	rows, cols []int // the owners
	cells      [][]*big.Int
	by         *big.Int
}

// swap lets the owners of a row and a column change places. The cell where they meet must be below 0.
func (t *table) swap(r, c int) {
	row := t.cells[r]
	by := new(big.Int).Neg(row[c])
	part := new(big.Int)
	for i, other := range t.cells {
		if i == r {
			continue
		}
		for j, cell := range other {
			if j != c {
				cell.Mul(cell, by)
				cell.Add(cell, part.Mul(other[c], row[j]))
				cell.Quo(cell, t.by) // nothing is left over: all cells are minors of what the table began with
			}
		}
		other[c].Neg(other[c])
	}
	row[c].Neg(t.by)
	t.by = by
	t.rows[r], t.cols[c] = t.cols[c], t.rows[r]
}

// mirror is the table in which rows are columns: it bounds what this one wants the most of, and wants the most of what this one bounds.
func (t *table) mirror() *table {
	m := &table{rows: slices.Clone(t.cols), cols: slices.Clone(t.rows), by: new(big.Int).Set(t.by)}
	for j := range t.cells[0] {
		var row []*big.Int
		for i := range t.cells {
			row = append(row, new(big.Int).Neg(t.cells[i][j]))
		}
		m.cells = append(m.cells, row)
	}
	return m
}

// along is, by times, how much a column gives to each of so many owners from first on, its own among them.
func (t *table) along(c, first, many int) []*big.Int {
	l := make([]*big.Int, many)
	for k := range l {
		l[k] = new(big.Int)
		if i := slices.Index(t.rows, first+k); i >= 0 {
			l[k].Set(t.cells[i][c])
		}
		if c < len(t.cols) && t.cols[c] == first+k {
			l[k].Set(t.by)
		}
	}
	return l
}
