package line_test

import (
	"fmt"
	"math"
	"math/big"
	"slices"
	"strings"
	"testing"

	"agora/api"
	"agora/exact"
	"agora/line"
)

// die draws numbers that look drawn, the same each time.
type die uint64

func (d *die) n(most int) int {
	*d = *d*6364136223846793005 + 1442695040888963407
	return int(uint64(*d>>33) % uint64(most))
}

// kind of lines: of which numbers they are made.
type kind struct{ least, most, leastBound, mostBound, downs int }

func (d *die) list(n, least, most, downs int) []api.Q {
	var l []api.Q
	for range n {
		l = append(l, api.Q(fmt.Sprintf("%d/%d", least+d.n(most-least+1), 1+d.n(downs))))
	}
	return l
}

func (d *die) line(rows, unknowns int, k kind) api.Line {
	l := api.Line{B: d.list(rows, k.leastBound, k.mostBound, k.downs), C: d.list(unknowns, -2, 3, k.downs)}
	for range rows {
		l.A = append(l.A, d.list(unknowns, k.least, k.most, k.downs))
	}
	return l
}

// drawn calls f with lines of all kinds: with bounds below 0 and without, with many ties, with none.
func drawn(f func(l api.Line)) {
	d := die(6)
	kinds := []kind{{-1, 3, -3, 8, 3}, {-1, 1, 0, 0, 1}, {-1, 1, -1, 1, 1}, {-2, 1, -2, 4, 1}, {-9, 9, -9, 30, 7}, {0, 5, 0, 9, 2}, {-3, 1, -9, -1, 2}}
	for i := range 1400 {
		f(d.line(d.n(6), d.n(6), kinds[i%len(kinds)]))
	}
	for i := range 70 {
		f(d.line(5+d.n(12), 5+d.n(12), kinds[i%len(kinds)]))
	}
}

func rat(q api.Q) *big.Rat {
	r, ok := new(big.Rat).SetString(string(exact.Norm(q)))
	if !ok {
		panic(q)
	}
	return r
}

func dot(a, b []api.Q) *big.Rat {
	sum := new(big.Rat)
	for i := range a {
		sum.Add(sum, new(big.Rat).Mul(rat(a[i]), rat(b[i])))
	}
	return sum
}

// least is that of a list and of 0.
func least(l []api.Q) int {
	sign := 0
	for _, q := range l {
		sign = min(sign, rat(q).Sign())
	}
	return sign
}

// slack is, of each row, what is left of so many times its bound.
func slack(l api.Line, x []api.Q, times int64) []*big.Rat {
	var left []*big.Rat
	for i, row := range l.A {
		b := new(big.Rat).Mul(rat(l.B[i]), big.NewRat(times, 1))
		left = append(left, b.Sub(b, dot(row, x)))
	}
	return left
}

// over is, of each unknown, by how much the rows weighed by y are more than so many times C.
func over(l api.Line, y []api.Q, times int64) []*big.Rat {
	var more []*big.Rat
	for j, c := range l.C {
		sum := new(big.Rat).Mul(rat(c), big.NewRat(-times, 1))
		for i, row := range l.A {
			sum.Add(sum, new(big.Rat).Mul(rat(row[j]), rat(y[i])))
		}
		more = append(more, sum)
	}
	return more
}

func noneBelow(l []*big.Rat) bool {
	return !slices.ContainsFunc(l, func(r *big.Rat) bool { return r.Sign() < 0 })
}

// judge is L2 once more, by other means.
func judge(l api.Line, a api.Answer) bool {
	may := func(x []api.Q, times int64) bool {
		return len(x) == len(l.C) && least(x) == 0 && noneBelow(slack(l, x, times))
	}
	weighs := func(times int64) bool {
		return len(a.Y) == len(l.B) && least(a.Y) == 0 && noneBelow(over(l, a.Y, times))
	}
	switch a.Kind {
	case 1:
		return may(a.X, 1) && weighs(1) && dot(l.C, a.X).Cmp(dot(l.B, a.Y)) == 0
	case 2:
		return len(a.X) == 0 && weighs(0) && dot(l.B, a.Y).Sign() < 0
	case 3:
		return may(a.X, 1) && may(a.Y, 0) && dot(l.C, a.Y).Sign() > 0
	}
	return false
}

func solve(t *testing.T, l api.Line) api.Answer {
	t.Helper()
	a, e := line.Solve(l)
	if e != api.OK || !judge(l, a) {
		t.Fatalf("Solve(%v): %v, error %d", l, a, e)
	}
	return a
}

// of is a line of whole numbers, a text for each part: rows and their bounds, then C.
func of(c string, rows ...string) api.Line {
	l := api.Line{C: list(c)}
	for _, r := range rows {
		row, bound, _ := strings.Cut(r, "<")
		l.A, l.B = append(l.A, list(row)), append(l.B, api.Q(strings.TrimSpace(bound)))
	}
	return l
}

func list(text string) []api.Q {
	var l []api.Q
	for _, w := range strings.Fields(text) {
		l = append(l, api.Q(w))
	}
	return l
}

// example is the document's: the most of 3 x + 5 y is 14.
func example() api.Line { return of("3 5", "1 1 < 4", "1 3 < 6") }

// square is a line of so many rows and unknowns.
func square(rows, unknowns int) api.Line {
	d := die(2)
	return d.line(rows, unknowns, kind{0, 5, 0, 9, 2})
}

func TestL1May(t *testing.T) {
	for _, l := range []api.Line{
		{}, {A: [][]api.Q{}, B: []api.Q{}, C: []api.Q{}}, {C: list("1 2")}, {A: [][]api.Q{nil, {}}, B: list("1 2")}, example(),
		square(api.MaxRows, 1), square(1, api.MaxRows), square(api.MaxRows, api.MaxRows), square(0, api.MaxRows), square(api.MaxRows, 0),
		of("x 1/0", "- 1.5 < ?"),
	} {
		if e := line.May(l); e != api.OK {
			t.Errorf("May(%v): error %d", l, e)
		}
	}
}

func TestL1BothOthersSayItFirst(t *testing.T) {
	fewer, more, cut := square(api.MaxRows+1, 2), square(2, 2), square(2, api.MaxRows+1)
	fewer.B = nil
	more.B = append(more.B, "1")
	cut.A[1] = nil
	long := square(api.MaxRows, 1)
	long.B = append(long.B, "1")
	for _, c := range []struct {
		l    api.Line
		want api.Errno
	}{
		{square(api.MaxRows+1, 2), api.ErrLimit}, {square(2, api.MaxRows+1), api.ErrLimit}, {square(0, api.MaxRows+1), api.ErrLimit}, {square(api.MaxRows+1, 0), api.ErrLimit},
		{square(100, 100), api.ErrLimit}, {fewer, api.ErrLimit}, {cut, api.ErrLimit},
		{more, api.ErrCount}, {long, api.ErrCount}, {api.Line{B: list("1")}, api.ErrCount}, {api.Line{A: [][]api.Q{{}}}, api.ErrCount}, {api.Line{A: [][]api.Q{list("1")}, C: list("1")}, api.ErrCount},
		{api.Line{B: slices.Repeat([]api.Q{"1"}, 100)}, api.ErrCount},
		{of("1 1", "1 1 < 1", "1 < 1"), api.ErrCount}, {of("1 1", "1 1 1 < 1", "1 1 < 1"), api.ErrCount}, {of("", "1 < 1"), api.ErrCount}, {of("1", " < 1"), api.ErrCount},
	} {
		if e := line.May(c.l); e != c.want {
			t.Errorf("May(%v): error %d, want %d", c.l, e, c.want)
		}
		if a, e := line.Solve(c.l); e != c.want || a.Kind != 0 || len(a.X)+len(a.Y) != 0 {
			t.Errorf("Solve(%v): %v, error %d, want %d", c.l, a, e, c.want)
		}
		for k := range 5 {
			if ok, e := line.Shows(c.l, api.Answer{Kind: k}); ok || e != c.want {
				t.Errorf("Shows(%v, %d): %v, error %d, want %d", c.l, k, ok, e, c.want)
			}
		}
	}
}

// said is an answer, and whether it shows what it says.
type said struct {
	kind int
	x, y string
	want bool
}

func holds(t *testing.T, l api.Line, all []said) {
	t.Helper()
	for _, s := range all {
		a := api.Answer{Kind: s.kind, X: list(s.x), Y: list(s.y)}
		if ok, e := line.Shows(l, a); ok != s.want || e != api.OK {
			t.Errorf("Shows(%v, %v): %v, error %d, want %v", l, a, ok, e, s.want)
		}
	}
}

func TestL2ShowsBest(t *testing.T) {
	holds(t, example(), []said{
		{1, "3 1", "2 1", true}, {1, "6/2 007/7", "4/2 1", true},
		{1, "3 1", "2 2", false}, {1, "3 1", "5 0", false}, {1, "4 0", "2 1", false}, {1, "2 2", "2 1", false}, // other sums; 2 2 is too much
		{1, "3 1 0", "2 1", false}, {1, "3", "2 1", false}, {1, "", "2 1", false}, {1, "3 1", "2 1 0", false}, {1, "3 1", "2", false}, {1, "3 1", "", false},
		{1, "14/3 0", "2 1", false}, {1, "-1/3 3", "2 1", false}, // the sum is 14, but they may not be
		{1, "3 1", "7/2 0", false}, {1, "3 1", "0 7/3", false}, {1, "3 1", "8 -3", false}, // the sum is 14, but they are not enough, or below 0
		{2, "3 1", "2 1", false}, {3, "3 1", "2 1", false}, {0, "3 1", "2 1", false}, {4, "3 1", "2 1", false}, {-1, "3 1", "2 1", false}, {math.MaxInt, "3 1", "2 1", false}, {math.MinInt, "3 1", "2 1", false},
	})
	// A number below 0 is no better where all sums hold.
	holds(t, of("0 0", "1 1 < 1"), []said{{1, "0 0", "0", true}, {1, "1 0", "0", true}, {1, "1/2 1/2", "0", true}, {1, "2 -1", "0", false}, {1, "-1 0", "0", false}, {1, "x ?", "1/0", true}})
	holds(t, of("-1 0", "0 0 < 0"), []said{{1, "0 9", "0", true}, {1, "0 9", "7", true}, {1, "0 9", "-7", false}})
	holds(t, api.Line{}, []said{{1, "", "", true}, {2, "", "", false}, {3, "", "", false}, {1, "0", "", false}, {1, "", "0", false}})
}

func TestL2ShowsNever(t *testing.T) {
	holds(t, of("1 1", "1 1 < 1", "-1 -1 < -2"), []said{
		{2, "", "1 1", true}, {2, "", "1/3 2/6", true}, {2, "", "3 2", true}, // to be at least 0 is enough, in all
		{2, "0 0", "1 1", false}, {2, "0", "1 1", false}, {2, "", "1", false}, {2, "", "1 1 0", false}, {2, "", "", false},
		{2, "", "2 1", false}, {2, "", "0 1", false}, {2, "", "1 2", false}, {2, "", "-1 -1", false}, {2, "", "0 0", false}, {1, "", "1 1", false}, {3, "", "1 1", false},
	})
	holds(t, of("9", "0 < -1", "1 < 3"), []said{{2, "", "1 0", true}, {2, "", "1/9 0", true}, {2, "", "1 1/9", true}, {2, "", "1 1/3", false}, {2, "", "1 -1/9", false}, {2, "", "3 1", false}, {2, "", "-3 -5", false}})
	holds(t, of("", "< -1", "< 2"), []said{{2, "", "1 0", true}, {2, "", "3 1", true}, {2, "", "2 1", false}, {2, "", "-1 -1", false}, {1, "", "0 0", false}})
}

func TestL2ShowsEver(t *testing.T) {
	holds(t, of("1 0", "1 -1 < 2", "-1 0 < -1"), []said{
		{3, "1 0", "1 1", true}, {3, "3 1", "1/2 5", true}, {3, "2/2 0", "7 7", true},
		{3, "0 0", "1 1", false}, {3, "4 1", "1 1", false}, {3, "1", "1 1", false}, {3, "", "1 1", false}, {3, "1 0 0", "1 1", false}, {3, "1 -1/2", "1 1", false},
		{3, "1 0", "1 0", false}, {3, "1 0", "2 1", false}, {3, "1 0", "0 1", false}, {3, "1 0", "0 0", false}, {3, "1 0", "-1 -1", false}, {3, "1 0", "1", false}, {3, "1 0", "", false}, {3, "1 0", "1 1 0", false},
		{1, "1 0", "1 1", false}, {2, "1 0", "1 1", false}, {2, "", "1 1", false},
	})
	// Its way must be nowhere below 0, where the rows have nothing against it.
	holds(t, of("1 -1", "0 0 < 0"), []said{{3, "0 0", "1 0", true}, {3, "0 0", "2 1", true}, {3, "0 0", "1 -1", false}, {3, "0 0", "1 1", false}, {3, "0 5", "0 1", false}, {3, "0 -5", "1 0", false}})
	holds(t, of("1"), []said{{3, "0", "1", true}, {3, "7", "1/2", true}, {3, "0", "0", false}, {3, "-1", "1", false}, {1, "0", "", false}})
}

// near is an answer of which one thing was changed.
func (d *die) near(a api.Answer) api.Answer {
	a.X, a.Y = slices.Clone(a.X), slices.Clone(a.Y)
	some := list("0 1 -1 1/2 -1/2 x 2/2")
	l := &a.X
	if d.n(2) == 0 {
		l = &a.Y
	}
	switch d.n(5) {
	case 0:
		a.Kind = d.n(5)
	case 1:
		*l = append(*l, "0")
	case 2:
		if len(*l) > 0 {
			*l = (*l)[1:]
		}
	default:
		if len(*l) > 0 {
			i := d.n(len(*l))
			(*l)[i] = exact.Add((*l)[i], some[d.n(len(some))])
		}
	}
	return a
}

func TestL2ShowsAsRats(t *testing.T) {
	d := die(4)
	count := map[bool]int{}
	drawn(func(l api.Line) {
		a := solve(t, l)
		for i := range 12 {
			other := a
			if i > 0 {
				other = d.near(other)
			}
			ok, e := line.Shows(l, other)
			if want := judge(l, other); ok != want || e != api.OK {
				t.Fatalf("Shows(%v, %v): %v, error %d, want %v", l, other, ok, e, want)
			}
			count[ok]++
		}
	})
	if count[true] < 1000 || count[false] < 1000 {
		t.Errorf("too few: %v", count)
	}
}

// Lines of which there is only one answer.
func TestL3Solve(t *testing.T) {
	for _, c := range []struct {
		l    api.Line
		want said
	}{
		{example(), said{1, "3 1", "2 1", true}},
		{of("1", "2 < 3"), said{1, "3/2", "1/2", true}}, {of("-1", "2 < 3"), said{1, "0", "0", true}}, {of("1/2", "1/3 < 1/5"), said{1, "3/5", "3/2", true}},
		{of("-1", "-1 < -2"), said{1, "2", "1", true}}, {of("2 3", "1/2 0 < 1/3", "0 1/4 < 1/6"), said{1, "2/3 2/3", "4 12", true}},
		{of("5 4 3", "2 3 1 < 5", "4 1 2 < 11", "3 4 2 < 8"), said{1, "2 0 1", "1 0 1", true}},
		{of("3 2 4", "1 1 2 < 4", "2 0 3 < 5", "2 1 3 < 7"), said{1, "5/2 3/2 0", "2 1/2 0", true}},
		// A bound below 0, which is held, or is held by one alone.
		{of("-2 -3", "-1 -1 < -4", "-1 -3 < -6"), said{1, "3 1", "3/2 1/2", true}}, {of("-2 -1", "1 1 < 3", "-1 -1 < -3", "-1 0 < -1"), said{1, "1 2", "0 1 1", true}},
		// Many rows meet where nothing is won at first: others go round and round here.
		{of("3/4 -20 1/2 -6", "1/4 -8 -1 9 < 0", "1/2 -12 -1/2 3 < 0", "0 0 1 0 < 1"), said{1, "1 0 1 0", "0 3/2 5/4", true}},
		{of("10 -57 -9 -24", "1/2 -11/2 -5/2 9 < 0", "1/2 -3/2 -1/2 1 < 0", "1 0 0 0 < 1"), said{1, "1 0 1 0", "0 18 1", true}},
		{of("-4 4 -8 -1 4 8", "6 1 -5 7 -7 -5 < 0", "2 3 3 -2 -6 -1 < 0", "2 6 3 -2 -8 2 < 0", "8 -7 -6 2 6 1 < 0", "-6 -8 7 5 -5 1 < 0"), said{3, "", "", false}},
		{of("-7 9 -5 1", "3 4 -8 3 < 0", "-1 4 -6 -3 < 0", "6 -9 6 -1 < 0", "-6 0 6 -7 < 0"), said{3, "", "", false}},
		{of("5 8 -9 4 1 3", "7 -1 2 2 4 1 < 0", "0 5 -3 -8 -8 9 < 0"), said{1, "", "", false}},
		// No unknowns, no rows, neither.
		{of(""), said{1, "", "", true}}, {of("-1 -2"), said{1, "0 0", "", true}}, {of("", "< 1", "< 0"), said{1, "", "0 0", false}},
		// Texts that are no fractions are 0.
		{of("x 1", "1/0 006/4 < 0x1", "1 1.5 < 1"), said{1, "1 0", "2/3 0", false}},
	} {
		a := solve(t, c.l)
		if a.Kind != c.want.kind || c.want.want && (!slices.Equal(a.X, list(c.want.x)) || !slices.Equal(a.Y, list(c.want.y))) {
			t.Errorf("Solve(%v): %v, want %v", c.l, a, c.want)
		}
	}
}

func TestL3NeverAndEver(t *testing.T) {
	for _, c := range []struct {
		l    api.Line
		want int
	}{
		{of("1", "1 < -1"), 2}, {of("-1", "0 < -1"), 2}, {of("", "< -1"), 2}, {of("", "< 1", "< -1/9"), 2}, {of("1 1", "1 1 < 1", "-1 -1 < -2"), 2}, {of("0", "1 < 0", "-1 < -1/1000"), 2}, {of("1 1", "0 0 < -1", "-1 -1 < 0"), 2},
		{of("1 0", "0 1 < 5", "0 -1 < -6"), 2}, // it would have no most, but there is none
		{of("1"), 3}, {of("-1 1"), 3}, {of("1", "0 < 0"), 3}, {of("1", "-1 < -5"), 3}, {of("1 0", "1 -1 < 2", "-1 0 < -1"), 3}, {of("0 1/9", "9 0 < 1"), 3}, {of("1 1", "1 -1 < 0", "-1 1 < 0"), 3},
		{of("-1 0", "-1 -1 < -2"), 1}, {of("1 -1", "1 -1 < 0"), 1}, {of("0"), 1}, {of("1", "1 < 0"), 1}, {of("1", "1 < 0", "-1 < 0"), 1},
	} {
		if a := solve(t, c.l); a.Kind != c.want {
			t.Errorf("Solve(%v): %v, want %d", c.l, a, c.want)
		}
	}
}

func lowest(l []api.Q) bool {
	return !slices.ContainsFunc(l, func(q api.Q) bool { return exact.Norm(q) != q })
}

func TestL3SolveShows(t *testing.T) {
	kinds := [4]int{}
	drawn(func(l api.Line) {
		a := solve(t, l)
		if ok, e := line.Shows(l, a); !ok || e != api.OK {
			t.Fatalf("Shows(%v, %v): %v, error %d", l, a, ok, e)
		}
		if !lowest(a.X) || !lowest(a.Y) {
			t.Fatalf("Solve(%v): %v: not in lowest terms", l, a)
		}
		kinds[a.Kind]++
	})
	if min(kinds[1], kinds[2], kinds[3]) < 100 {
		t.Errorf("too few of a kind: %v", kinds)
	}
}

// corners are all points where two of the rows, or of what the unknowns are at least, meet, and which may be.
func corners(l api.Line) [][]api.Q {
	walls, bounds := append(slices.Clone(l.A), list("-1 0"), list("0 -1")), append(slices.Clone(l.B), "0", "0")
	var all [][]api.Q
	for i, p := range walls {
		for j, q := range walls[:i] {
			det := exact.Sub(exact.Mul(p[0], q[1]), exact.Mul(p[1], q[0]))
			x, e := exact.Div(exact.Sub(exact.Mul(bounds[i], q[1]), exact.Mul(p[1], bounds[j])), det)
			y, _ := exact.Div(exact.Sub(exact.Mul(p[0], bounds[j]), exact.Mul(bounds[i], q[0])), det)
			if c := []api.Q{x, y}; e == api.OK && least(c) == 0 && noneBelow(slack(l, c, 1)) {
				all = append(all, c)
			}
		}
	}
	return all
}

// Of two unknowns the best stands at a corner, and where there is no corner there is nothing.
func TestL3SolveByCorners(t *testing.T) {
	d := die(7)
	for range 1500 {
		l := d.line(d.n(6), 2, kind{-3, 3, -4, 6, 2})
		a, all := solve(t, l), corners(l)
		if (a.Kind == api.Never) != (len(all) == 0) {
			t.Fatalf("Solve(%v): %v, corners %v", l, a, all)
		}
		if a.Kind != api.Best {
			continue
		}
		most := dot(l.C, all[0])
		for _, c := range all {
			if s := dot(l.C, c); s.Cmp(most) > 0 {
				most = s
			}
		}
		if most.Cmp(dot(l.C, a.X)) != 0 {
			t.Fatalf("Solve(%v): %v, but the most is %v", l, a, most)
		}
	}
}

// A bound for the sum of all unknowns takes away the lines without a most; a row that is held anyway changes no sum.
func TestL3MoreRows(t *testing.T) {
	drawn(func(l api.Line) {
		a := solve(t, l)
		more := l
		more.A, more.B = append(slices.Clone(l.A), slices.Repeat([]api.Q{"1"}, len(l.C))), append(slices.Clone(l.B), api.Q("1"+strings.Repeat("0", 60)))
		b := solve(t, more)
		if (a.Kind == api.Never) != (b.Kind == api.Never) || b.Kind == api.Ever {
			t.Fatalf("Solve(%v): %v, with a row more %v", l, a, b)
		}
		if a.Kind == api.Best && dot(l.C, a.X).Cmp(dot(l.C, b.X)) != 0 {
			t.Fatalf("Solve(%v): %v, with a row more %v", l, a, b)
		}
	})
}

// long are lines that lead those who take the first or the steepest way past each of 2^40 corners.
func long(n int, up, down string, homogeneous bool) api.Line {
	var l api.Line
	power := func(of string, n int) api.Q {
		q := api.Q("1")
		for range n {
			q = exact.Mul(q, api.Q(of))
		}
		return q
	}
	for i := range n {
		row := slices.Repeat([]api.Q{"0"}, n)
		for j := range i {
			row[j] = exact.Mul("2", power(up, i-j))
		}
		row[i] = "1"
		l.A, l.B, l.C = append(l.A, row), append(l.B, power(down, i)), append(l.C, power(up, n-1-i))
	}
	if homogeneous {
		for i := range l.A {
			l.A[i], l.B[i] = append(l.A[i], exact.Sub("0", l.B[i])), "0"
		}
		l.A, l.B, l.C = append(l.A, append(slices.Repeat([]api.Q{"0"}, n), "1")), append(l.B, "1"), append(l.C, "0")
	}
	return l
}

// mirror is the line of which X and Y have changed places.
func mirror(l api.Line) api.Line {
	var m api.Line
	for j, c := range l.C {
		var row []api.Q
		for _, r := range l.A {
			row = append(row, exact.Sub("0", r[j]))
		}
		m.A, m.B = append(m.A, row), append(m.B, exact.Sub("0", c))
	}
	for _, b := range l.B {
		m.C = append(m.C, exact.Sub("0", b))
	}
	return m
}

func TestL3LongWays(t *testing.T) {
	for _, l := range []api.Line{
		long(api.MaxRows, "10", "100", false), long(api.MaxRows, "2", "5", false), long(api.MaxRows, "1/10", "1", false), long(api.MaxRows, "10", "1", false),
		long(api.MaxRows-1, "10", "100", true), long(api.MaxRows-1, "2", "5", true),
	} {
		a, b := solve(t, l), solve(t, mirror(l))
		if a.Kind != api.Best || b.Kind != api.Best || dot(l.C, a.X).Cmp(dot(l.B, b.X)) != 0 {
			t.Errorf("Solve(%v): %v, of the mirror %v", l, a, b)
		}
	}
}

// The mirror has a best where the line has one, and where one has no most the other has nothing.
func TestL3Mirror(t *testing.T) {
	drawn(func(l api.Line) {
		a, b := solve(t, l), solve(t, mirror(l))
		if (a.Kind == api.Best) != (b.Kind == api.Best) || a.Kind == api.Ever && b.Kind != api.Never {
			t.Fatalf("Solve(%v): %v, of the mirror %v", l, a, b)
		}
	})
}

func TestL3Greatest(t *testing.T) {
	d := die(8)
	for _, k := range []kind{{0, 99, 0, 999, 1}, {-50, 50, -50, 50, 1}, {-1, 1, 0, 0, 1}, {-1, 2, -1, 3, 1}, {-40, 50, -99, 500, 10}, {-40, 50, -99, 500, 1000}} {
		for range 3 {
			solve(t, d.line(api.MaxRows, api.MaxRows, k))
		}
	}
	digits := api.Q(strings.Repeat("7", 3000))
	l := api.Line{A: [][]api.Q{{digits, "1/" + digits}, {"1", digits + "/3"}}, B: []api.Q{"-1/" + digits, digits}, C: []api.Q{digits, "-" + digits}}
	if a := solve(t, l); a.Kind != api.Never {
		t.Errorf("kind %d", a.Kind)
	}
	l.B[0] = "1"
	if a := solve(t, l); a.Kind != api.Best {
		t.Errorf("kind %d", a.Kind)
	}
}

// answers are all of a line, as a text.
func answers(l api.Line, shown api.Answer) string {
	a, e := line.Solve(l)
	ok, f := line.Shows(l, a)
	other, g := line.Shows(l, shown)
	return fmt.Sprint(line.May(l), a, e, ok, f, other, g)
}

func TestX1Junk(t *testing.T) {
	d := die(9)
	odd := []api.Q{"", "-", "x", "1/0", "-1", "1", "0", "2/4", "-3/9", "1e9", "+1", " 1", "\xff", "99999999999999999999", "-1/99999999999999999999"}
	some := func(n int) []api.Q {
		var l []api.Q
		for range n {
			l = append(l, odd[d.n(len(odd))])
		}
		return l
	}
	for range 3000 {
		rows, unknowns := d.n(5), d.n(5)
		l := api.Line{B: some(rows), C: some(unknowns)}
		for range rows + d.n(8)/7 {
			l.A = append(l.A, some(unknowns+d.n(30)/29))
		}
		if e := line.May(l); e == api.OK {
			solve(t, l)
		}
		a := api.Answer{Kind: d.n(6) - 1, X: some(d.n(6)), Y: some(d.n(6))}
		ok, e := line.Shows(l, a)
		if want := e == api.OK && judge(l, a); ok != want || e != line.May(l) {
			t.Fatalf("Shows(%q, %v): %v, error %d", l, a, ok, e)
		}
	}
}

// roomy is a copy of a list with room behind it, in which "7" stands.
func roomy(l []api.Q) []api.Q { return append(slices.Clone(l), "7")[:len(l)] }

func TestX2NothingIsChanged(t *testing.T) {
	drawn(func(l api.Line) {
		shown := solve(t, l)
		want := answers(l, shown)
		copied := api.Line{B: roomy(l.B), C: roomy(l.C)}
		for _, row := range l.A {
			copied.A = append(copied.A, roomy(row))
		}
		told := fmt.Sprintf("%q %v", copied, shown)
		got := answers(copied, api.Answer{Kind: shown.Kind, X: roomy(shown.X), Y: roomy(shown.Y)})
		if got != want || fmt.Sprintf("%q %v", copied, shown) != told {
			t.Fatalf("%s: %s, asked again %s", told, want, got)
		}
		for _, list := range append(copied.A, copied.B, copied.C) {
			if list[:len(list)+1][len(list)] != "7" {
				t.Fatalf("something was written behind a list of %v", l)
			}
		}
	})
}

func TestX2FreshAnswers(t *testing.T) {
	for _, l := range []api.Line{example(), of("1", "1 < -1"), of("1 0", "1 -1 < 2", "-1 0 < -1")} {
		a := solve(t, l)
		want := fmt.Sprint(a)
		b := solve(t, l)
		clear(a.X[:cap(a.X)])
		if fmt.Sprint(b) != want || len(a.Y) > 0 && a.Y[0] != b.Y[0] {
			t.Errorf("two answers share a list: %v", b)
		}
		clear(a.Y)
		if got := fmt.Sprint(solve(t, l)); got != want {
			t.Errorf("%s, asked again %s", want, got)
		}
	}
}
