package zero_test

import (
	"fmt"
	"math"
	"math/big"
	"slices"
	"strings"
	"testing"

	"agora/api"
	"agora/exact"
	"agora/zero"
)

// die draws numbers that look drawn, the same each time.
type die uint64

func (d *die) n(most int) int {
	*d = *d*6364136223846793005 + 1442695040888963407
	return int(uint64(*d>>33) % uint64(most))
}

// pays draws payments, from least to most.
func (d *die) pays(rows, cols, least, most int) [][]int {
	a := make([][]int, rows)
	for i := range a {
		for range cols {
			a[i] = append(a[i], least+d.n(most-least+1))
		}
	}
	return a
}

func (d *die) mix(n int) []api.Q {
	weights, all := make([]int, n), 0
	for i := range weights {
		weights[i] = d.n(4)
		all += weights[i]
	}
	if all == 0 {
		weights[d.n(n)], all = 1, 1
	}
	var l []api.Q
	for _, w := range weights {
		l = append(l, api.Q(fmt.Sprintf("%d/%d", w, all)))
	}
	return l
}

// drawn calls f with payments of all sizes and kinds: with many ties, below 0, the greatest.
func drawn(f func(a [][]int)) {
	d := die(11)
	for i := range 600 {
		rows, cols := 1+d.n(api.MaxMoves), 1+d.n(api.MaxMoves)
		switch i % 5 {
		case 0:
			f(d.pays(rows, cols, 0, 6))
		case 1:
			f(d.pays(rows, cols, -1, 1))
		case 2:
			f(d.pays(rows, cols, -9, -3))
		case 3:
			f(d.pays(rows, cols, -api.MaxPay, api.MaxPay))
		case 4:
			f(d.pays(api.MaxMoves, api.MaxMoves, -20, 20))
		}
	}
	f(d.pays(5, 5, api.MaxPay, api.MaxPay))
	f(d.pays(5, 5, -api.MaxPay, -api.MaxPay))
}

// of reads payments: rows with / between.
func of(text string) [][]int {
	var a [][]int
	for row := range strings.SplitSeq(text, "/") {
		var l []int
		for _, word := range strings.Fields(row) {
			n := 0
			fmt.Sscan(word, &n)
			l = append(l, n)
		}
		a = append(a, l)
	}
	return a
}

func list(text string) []api.Q {
	var l []api.Q
	for _, word := range strings.Fields(text) {
		l = append(l, api.Q(word))
	}
	return l
}

func rat(q api.Q) *big.Rat {
	r, ok := new(big.Rat).SetString(string(exact.Norm(q)))
	if !ok {
		panic(q)
	}
	return r
}

// average is what is paid in one column by a mix of rows (or, turned, in one row by a mix of columns).
func average(a [][]int, mix []api.Q, at int, turned bool) *big.Rat {
	sum := new(big.Rat)
	for i, q := range mix {
		row, col := i, at
		if turned {
			row, col = at, i
		}
		pays := a[row][col]
		sum.Add(sum, new(big.Rat).Mul(big.NewRat(int64(pays), 1), rat(q)))
	}
	return sum
}

// extreme is the least over all columns, or, turned, the most over all rows.
func extreme(a [][]int, mix []api.Q, turned bool) api.Q {
	many, sign := len(a[0]), -1
	if turned {
		many, sign = len(a), 1
	}
	best := average(a, mix, 0, turned)
	for k := range many {
		if s := average(a, mix, k, turned); s.Cmp(best) == sign {
			best = s
		}
	}
	return api.Q(best.RatString())
}

// said is what a call answers, as a text, and its error.
type said struct {
	text string
	e    api.Errno
}

// calls are all of them but May.
func calls(a [][]int, x, y []api.Q) map[string]said {
	v, p, q, e := zero.Solve(a)
	least, f := zero.Least(a, x)
	most, g := zero.Most(a, y)
	row, col, h := zero.Saddle(a)
	return map[string]said{
		"Solve": {fmt.Sprintf("%q %q %q", v, p, q), e}, "Least": {string(least), f}, "Most": {string(most), g}, "Saddle": {fmt.Sprint(row, col), h},
	}
}

// nothing is what all calls answer with an error.
func nothing() map[string]string {
	return map[string]string{"Solve": `"" [] []`, "Least": "", "Most": "", "Saddle": "0 0"}
}

func TestZ1May(t *testing.T) {
	for rows := 1; rows <= api.MaxMoves; rows++ {
		for cols := 1; cols <= api.MaxMoves; cols++ {
			for _, pays := range []int{0, api.MaxPay, -api.MaxPay} {
				a := slices.Repeat([][]int{slices.Repeat([]int{pays}, cols)}, rows)
				if e := zero.May(a); e != api.OK {
					t.Errorf("May(%v): error %d", a, e)
				}
			}
		}
	}
}

func TestZ1AllCallsSayItFirst(t *testing.T) {
	six, great := slices.Repeat([]int{0}, 6), api.MaxPay+1
	bad := []struct {
		a    [][]int
		want api.Errno
	}{
		{nil, api.ErrCount}, {[][]int{}, api.ErrCount}, {[][]int{nil}, api.ErrCount}, {[][]int{{}, {}}, api.ErrCount}, {[][]int{{1}, {}}, api.ErrCount}, {[][]int{{}, {1}}, api.ErrCount}, {[][]int{{1, 2}, {1}}, api.ErrCount}, {[][]int{{1}, {1, 2}}, api.ErrCount},
		{[][]int{{1, 2}, {1, 2}, {1, 2, 3}}, api.ErrCount}, {[][]int{six}, api.ErrCount}, {slices.Repeat([][]int{{1}}, 6), api.ErrCount}, {slices.Repeat([][]int{six}, 6), api.ErrCount}, {slices.Repeat([][]int{six}, 5), api.ErrCount}, {make([][]int, 70000), api.ErrCount},
		{[][]int{{great, 0}, {1}}, api.ErrCount}, {[][]int{{great}, nil}, api.ErrCount}, {slices.Repeat([][]int{{great}}, 6), api.ErrCount},
		{[][]int{{great}}, api.ErrValue}, {[][]int{{-great}}, api.ErrValue}, {[][]int{{0, 0}, {0, great}}, api.ErrValue}, {[][]int{{0, -great}, {0, 0}}, api.ErrValue}, {[][]int{{math.MinInt, math.MaxInt}}, api.ErrValue}, {[][]int{{0}, {math.MaxInt}}, api.ErrValue},
	}
	for _, b := range bad {
		if e := zero.May(b.a); e != b.want {
			t.Errorf("May(%v): error %d, want %d", b.a, e, b.want)
		}
		for _, mix := range [][]api.Q{nil, {"1"}, {"1/2", "1/2"}, {"2"}} {
			for name, got := range calls(b.a, mix, mix) {
				if got.text != nothing()[name] || got.e != b.want {
					t.Errorf("%s(%v, %q): %v, want %d", name, b.a, mix, got, b.want)
				}
			}
		}
	}
}

func TestZ2LeastAndMost(t *testing.T) {
	for _, c := range []struct {
		a           string
		x, y        string
		least, most api.Q
	}{
		{"3 -1 / -2 4", "3/5 2/5", "1/2 1/2", "1", "1"}, {"3 -1 / -2 4", "1 0", "0 1", "-1", "4"}, {"3 -1 / -2 4", "0 1", "1 0", "-2", "3"}, {"7", "1", "1", "7", "7"}, {"1 2 3", "1", "1/3 1/3 1/3", "1", "2"}, {"1 / 2 / -3", "1/2 1/4 1/4", "1", "1/4", "2"},
		// Not in lowest terms, and texts that count as 0.
		{"1 0 / 0 1", "2/4 003/6", "x 1", "1/2", "1"}, {"5 -5 / 0 2", "1 1.5", "-0 7/7", "-5", "2"}, {"5 -5 / 0 2", "1 1/0", "1 -1/0", "-5", "5"},
	} {
		a := of(c.a)
		if q, e := zero.Least(a, list(c.x)); q != c.least || e != api.OK {
			t.Errorf("Least(%s, %s): %q, error %d, want %q", c.a, c.x, q, e, c.least)
		}
		if q, e := zero.Most(a, list(c.y)); q != c.most || e != api.OK {
			t.Errorf("Most(%s, %s): %q, error %d, want %q", c.a, c.y, q, e, c.most)
		}
	}
}

func TestZ2LeastAndMostOfDrawn(t *testing.T) {
	d := die(2)
	drawn(func(a [][]int) {
		x, y := d.mix(len(a)), d.mix(len(a[0]))
		if q, e := zero.Least(a, x); q != extreme(a, x, false) || e != api.OK {
			t.Errorf("Least(%v, %q): %q, error %d, want %q", a, x, q, e, extreme(a, x, false))
		}
		if q, e := zero.Most(a, y); q != extreme(a, y, true) || e != api.OK {
			t.Errorf("Most(%v, %q): %q, error %d, want %q", a, y, q, e, extreme(a, y, true))
		}
	})
}

func TestZ2NoMix(t *testing.T) {
	a := of("1 2 3 / 4 5 6") // two rows, three columns
	for _, mix := range []string{"", "1", "1/2", "1/2 1/3", "1/2 1/2 1/2", "1 1", "0 0", "0 0 0", "x y", "3/2 -1/2", "-1 2", "-1/2 1 1/2", "1 1/1000000", "1/3 1/3 1/3 0", "1/4 1/4 1/4 1/4", "2 -1 0", "1.0 0", "1.0 0 0"} {
		if q, e := zero.Least(a, list(mix)); q != "" || e != api.ErrState {
			t.Errorf("Least(%v, %s): %q, error %d", a, mix, q, e)
		}
		if q, e := zero.Most(a, list(mix)); q != "" || e != api.ErrState {
			t.Errorf("Most(%v, %s): %q, error %d", a, mix, q, e)
		}
	}
	// A mix of the one player's moves is none of the other one's.
	two, three := list("1/2 1/2"), list("1/2 1/2 0")
	if _, e := zero.Least(a, three); e != api.ErrState {
		t.Errorf("Least: error %d", e)
	}
	if _, e := zero.Most(a, two); e != api.ErrState {
		t.Errorf("Most: error %d", e)
	}
	if _, e := zero.Least(a, two); e != api.OK {
		t.Errorf("Least: error %d", e)
	}
	if _, e := zero.Most(a, three); e != api.OK {
		t.Errorf("Most: error %d", e)
	}
}

func TestZ2Solve(t *testing.T) {
	for _, c := range []struct {
		a     string
		value api.Q
		x, y  string // where there is just one mix
	}{
		{"3 -1 / -2 4", "1", "3/5 2/5", "1/2 1/2"}, {"1 -1 / -1 1", "0", "1/2 1/2", "1/2 1/2"}, {"0 -1 1 / 1 0 -1 / -1 1 0", "0", "1/3 1/3 1/3", "1/3 1/3 1/3"},
		{"0 2 -1 / -2 0 3 / 1 -3 0", "0", "1/2 1/6 1/3", "1/2 1/6 1/3"}, {"5", "5", "1", "1"}, {"-999", "-999", "1", "1"}, {"999", "999", "1", "1"}, {"4 -2 7", "-2", "1", "0 1 0"}, {"4 / -2 / 7", "7", "0 0 1", "1"},
		{"2 3 1 / 0 9 0", "1", "1 0", "0 0 1"}, {"1 0 0 0 0 / 0 2 0 0 0 / 0 0 3 0 0 / 0 0 0 4 0 / 0 0 0 0 5", "60/137", "60/137 30/137 20/137 15/137 12/137", "60/137 30/137 20/137 15/137 12/137"},
		{"999 -999 / -999 998", "-999/3995", "1997/3995 1998/3995", "1997/3995 1998/3995"}, {"3 2 1 / 3 1 9", "17/9", "8/9 1/9", "0 8/9 1/9"}, {"0 0 / 0 0", "0", "", ""}, {"1 1 / 1 1 / 1 1", "1", "", ""},
	} {
		v, x, y, e := zero.Solve(of(c.a))
		if v != c.value || e != api.OK || c.x != "" && (!slices.Equal(x, list(c.x)) || !slices.Equal(y, list(c.y))) {
			t.Errorf("Solve(%s): %q by %q and %q, error %d; want %q by %s and %s", c.a, v, x, y, e, c.value, c.x, c.y)
		}
	}
}

func lowest(l []api.Q) bool {
	return !slices.ContainsFunc(l, func(q api.Q) bool { return exact.Norm(q) != q })
}

// What the one is sure of is what the other one need not pay more than: so no mix of either does better.
func TestZ2SolveOfDrawn(t *testing.T) {
	drawn(func(a [][]int) {
		v, x, y, e := zero.Solve(a)
		least, f := zero.Least(a, x)
		most, g := zero.Most(a, y)
		if e != api.OK || f != api.OK || g != api.OK || least != v || most != v {
			t.Fatalf("Solve(%v): %q by %q and %q, error %d; Least %q, error %d; Most %q, error %d", a, v, x, y, e, least, f, most, g)
		}
		if extreme(a, x, false) != v || extreme(a, y, true) != v || !lowest(x) || !lowest(y) {
			t.Fatalf("Solve(%v): %q by %q and %q", a, v, x, y)
		}
	})
}

// A value moves with what is paid, and with who is who.
func TestZ2ValueOfTurned(t *testing.T) {
	drawn(func(a [][]int) {
		turned := make([][]int, len(a[0]))
		for _, row := range a {
			for j, pays := range row {
				turned[j] = append(turned[j], -pays)
			}
		}
		v, _, _, _ := zero.Solve(a)
		w, _, _, _ := zero.Solve(turned)
		if exact.Cmp(exact.Add(v, w), "0") != 0 {
			t.Fatalf("Solve(%v): %q, turned %q", a, v, w)
		}
	})
}

func TestZ2Saddle(t *testing.T) {
	for _, c := range []struct {
		a        string
		row, col int
	}{
		{"7", 0, 0}, {"1 -1 / -1 1", -1, -1}, {"3 -1 / -2 4", -1, -1}, {"4 -2 7", 0, 1}, {"4 / -2 / 7", 2, 0}, {"2 3 1 / 0 9 0", 0, 2}, {"4 5 6 / 1 2 3", 0, 0}, {"1 2 / 3 4", 1, 0}, {"9 1 9 / 2 2 2 / 9 0 9", 1, 1},
		// Of several the first, row by row.
		{"0 0 / 0 0", 0, 0}, {"1 0 0 / 0 0 0", 0, 1}, {"0 5 / 1 2 / 1 1", 1, 0}, {"-1 -1 / 0 0 / 0 0", 1, 0}, {"3 1 1 / 5 1 1 / 1 0 0", 0, 1}, {"5 5 / 5 5 / 6 4", 0, 1},
		// The most of a row, and the least of a column, is none.
		{"0 1 / 2 1", 1, 1}, {"0 3 / 1 2", 1, 0}, {"1 0 / 0 1", -1, -1}, {"5 1 / 2 3", -1, -1},
	} {
		if row, col, e := zero.Saddle(of(c.a)); row != c.row || col != c.col || e != api.OK {
			t.Errorf("Saddle(%s): %d %d, error %d; want %d %d", c.a, row, col, e, c.row, c.col)
		}
	}
}

// saddle says whether a pair of moves is one.
func saddle(a [][]int, row, col int) bool {
	for i := range a {
		if a[i][col] > a[row][col] {
			return false
		}
	}
	for j := range a[row] {
		if a[row][j] < a[row][col] {
			return false
		}
	}
	return true
}

func TestZ2SaddleOfDrawn(t *testing.T) {
	there, none := 0, 0
	drawn(func(a [][]int) {
		row, col := -1, -1
		for i := len(a) - 1; i >= 0; i-- {
			for j := len(a[i]) - 1; j >= 0; j-- {
				if saddle(a, i, j) {
					row, col = i, j
				}
			}
		}
		if r, c, e := zero.Saddle(a); r != row || c != col || e != api.OK {
			t.Fatalf("Saddle(%v): %d %d, error %d; want %d %d", a, r, c, e, row, col)
		}
		if row < 0 {
			none++
			return
		}
		there++
		if v, _, _, _ := zero.Solve(a); v != exact.Of(a[row][col]) {
			t.Fatalf("Solve(%v): %q, but a saddle %d %d", a, v, row, col)
		}
	})
	if min(there, none) < 100 {
		t.Errorf("too few of a kind: %d and %d", there, none)
	}
}

func TestX2NothingIsChanged(t *testing.T) {
	d := die(5)
	drawn(func(a [][]int) {
		// Behind each list stands something that no call may write to.
		outer := append(slices.Clone(a), []int{77})
		for i := range a {
			outer[i] = append(slices.Clone(a[i]), 88)[:len(a[i])]
		}
		x, y := append(d.mix(len(a)), "99"), append(d.mix(len(a[0])), "99")
		whole := func() string {
			text := fmt.Sprint(outer, x, y)
			for _, row := range outer[:len(a)] {
				text += fmt.Sprint(row[:len(row)+1])
			}
			return text
		}
		before := whole()
		first := calls(outer[:len(a)], x[:len(a)], y[:len(a[0])])
		if after := whole(); after != before {
			t.Fatalf("changed: %s, was %s", after, before)
		}
		if again := calls(a, x[:len(a)], y[:len(a[0])]); fmt.Sprint(again) != fmt.Sprint(first) {
			t.Fatalf("%v: asked again: %v, was %v", a, again, first)
		}
	})
}

func TestX2FreshAnswers(t *testing.T) {
	drawn(func(a [][]int) {
		_, x, y, _ := zero.Solve(a)
		before := fmt.Sprint(x, y)
		x, y = append(x[:len(x):cap(x)], "7"), append(y[:len(y):cap(y)], "8")
		if after := fmt.Sprint(x[:len(a)], y[:len(a[0])]); after != before {
			t.Fatalf("Solve(%v): %s, was %s", a, after, before)
		}
		clear(x[:cap(x)])
		if slices.Contains(y, "") {
			t.Fatalf("Solve(%v): the mixes share memory", a)
		}
	})
}
