package swap

import (
	"fmt"
	"math"
	"slices"
	"testing"

	"agora/api"
)

// die draws numbers that look drawn, the same each time.
type die uint64

func (d *die) n(most int) int {
	*d = *d*6364136223846793005 + 1442695040888963407
	return int(uint64(*d>>33) % uint64(most))
}

// swap draws n, of whom each one's gift fits one of so many others.
func (d *die) swap(n, oneOf int) api.Swap {
	s := api.Swap{Givers: min(d.n(4), n), Round: d.n(n + 1), Row: d.n(n + 1)}
	for i := range n {
		var l []int
		for k := s.Givers; k < n; k++ {
			if k != i && d.n(oneOf) == 0 {
				l = append(l, k)
			}
		}
		s.Fits = append(s.Fits, l)
	}
	return s
}

// everyone are n of whom each one's gift fits all others but the givers.
func everyone(n, givers, round, row int) api.Swap {
	s := api.Swap{Givers: givers, Round: round, Row: row}
	for i := range n {
		var l []int
		for k := givers; k < n; k++ {
			if k != i {
				l = append(l, k)
			}
		}
		s.Fits = append(s.Fits, l)
	}
	return s
}

// ring are n who can give to the next one, and the last one to the first.
func ring(n, round int) api.Swap {
	s := api.Swap{Round: round}
	for i := range n {
		s.Fits = append(s.Fits, []int{(i + 1) % n})
	}
	return s
}

// few are a giver, 0, whose gift fits 1 and 2, and three pairs: 1 fits 2, 2 fits 1 and 3, 3 fits 1.
func few() api.Swap {
	return api.Swap{Givers: 1, Round: 3, Row: 2, Fits: [][]int{{1, 2}, {2}, {1, 3}, {1}}}
}

func TestW1May(t *testing.T) {
	n := api.MaxSwaps
	type test struct {
		what string
		s    api.Swap
		want api.Errno
	}
	tests := []test{
		{"none", api.Swap{}, api.OK},
		{"as many as may be", everyone(n, 0, n, n), api.OK},
		{"givers alone", everyone(n, n, 0, 0), api.OK},
		{"few", few(), api.OK},
		{"a gift that fits nobody", api.Swap{Givers: 1, Fits: [][]int{nil, {}}}, api.OK},
		{"too many", everyone(n+1, 0, 0, 0), api.ErrLimit},
		{"too many is ahead", everyone(n+1, -1, 99, 99), api.ErrLimit},
		{"givers below 0", api.Swap{Givers: -1, Fits: [][]int{nil}}, api.ErrCount},
		{"more givers than there are", api.Swap{Givers: 2, Fits: [][]int{nil}}, api.ErrCount},
		{"a giver of none", api.Swap{Givers: 1}, api.ErrCount},
		{"givers of the greatest", api.Swap{Givers: math.MaxInt}, api.ErrCount},
		{"givers of the least", api.Swap{Givers: math.MinInt}, api.ErrCount},
		{"givers are ahead of round", api.Swap{Givers: -1, Round: -1}, api.ErrCount},
		{"round below 0", everyone(3, 1, -1, 0), api.ErrValue},
		{"round above", everyone(3, 1, 4, 0), api.ErrValue},
		{"row below 0", everyone(3, 1, 0, -1), api.ErrValue},
		{"row above", everyone(3, 1, 3, 4), api.ErrValue},
		{"round of none", api.Swap{Round: 1}, api.ErrValue},
		{"row of none", api.Swap{Row: 1}, api.ErrValue},
		{"round of the greatest", everyone(2, 0, math.MaxInt, 0), api.ErrValue},
		{"row of the least", everyone(2, 0, 0, math.MinInt), api.ErrValue},
		{"row is ahead of fits", api.Swap{Row: 2, Fits: [][]int{{9}}}, api.ErrValue},
		{"as long as there are", everyone(3, 1, 3, 3), api.OK},
	}
	for _, l := range [][]int{{2, 2}, {3, 2}, {0}, {0, 2}, {1}, {1, 2}, {2, 4}, {-1}, {-1, 2}, {4}, {math.MaxInt}, {math.MinInt}, {2, 3, 3}} {
		s := few()
		s.Fits[1] = l
		tests = append(tests, test{fmt.Sprint("fits ", l), s, api.ErrWho})
	}
	for _, l := range [][]int{{3}, {0}, {1, 0}, {1, 1}, {2, 1}, {4}, {1, 2, 3}} {
		s := few()
		s.Fits[3] = l
		tests = append(tests, test{fmt.Sprint("the last one fits ", l), s, api.ErrWho})
	}
	s := few()
	s.Fits[0] = []int{0, 1}
	tests = append(tests, test{"a giver's gift fits a giver", s, api.ErrWho})
	for _, c := range tests {
		if got := May(c.s); got != c.want {
			t.Errorf("%s: May(%v) = %d, want %d", c.what, c.s, got, c.want)
		}
		if c.want == api.OK {
			continue
		}
		// Check says this ahead of what it says of a plan.
		k, e := Check(c.s, [][]int{{}}, nil)
		a, b, f := Most(c.s)
		if e != c.want || k != 0 || f != c.want || len(a)+len(b) != 0 {
			t.Errorf("%s: Check = %d, %d, Most = %v, %v, %d, want error %d", c.what, k, e, a, b, f, c.want)
		}
	}
}

type plan struct{ rounds, rows [][]int }

func rounds(l ...[]int) plan { return plan{rounds: l} }

func rows(l ...[]int) plan { return plan{rows: l} }

func TestW2Check(t *testing.T) {
	big := everyone(8, 2, 4, 3)
	for _, c := range []struct {
		s    api.Swap
		p    plan
		want int
	}{
		{api.Swap{}, plan{}, 0},
		{few(), plan{}, 0},
		{few(), rounds([]int{1, 2}), 2},
		{few(), rounds([]int{2, 1}), 2},
		{few(), rounds([]int{1, 2, 3}), 3},
		{few(), rounds([]int{3, 1, 2}), 3},
		{few(), rows([]int{0, 1}), 1},
		{few(), rows([]int{0, 2, 3}), 2},
		{everyone(4, 1, 3, 1), plan{[][]int{{3, 2}}, [][]int{{0, 1}}}, 3},
		{big, plan{[][]int{{7, 3, 5, 4}}, [][]int{{1, 6}, {0, 2}}}, 6},
		{big, rows([]int{1, 2, 3, 4}, []int{0, 7, 6, 5}), 6},
		{everyone(8, 0, 2, 0), rounds([]int{0, 7}, []int{6, 1}, []int{2, 5}, []int{4, 3}), 8},
		{everyone(8, 0, 8, 8), rounds([]int{3, 1, 4, 0, 5, 2, 6, 7}), 8},
		{everyone(8, 1, 0, 7), rows([]int{0, 1, 2, 3, 4, 5, 6, 7}), 7},
	} {
		if got, e := Check(c.s, c.p.rounds, c.p.rows); e != api.OK || got != c.want {
			t.Errorf("Check(%v, %v) = %d, %d, want %d", c.s, c.p, got, e, c.want)
		}
	}
}

func TestW2Faults(t *testing.T) {
	short := few()
	short.Round, short.Row = 2, 1
	for _, c := range []struct {
		what string
		s    api.Swap
		p    plan
		want api.Errno
	}{
		{"an empty round", few(), rounds(nil), api.ErrCount},
		{"a round of one", few(), rounds([]int{1}), api.ErrCount},
		{"a round of one that is not there", few(), rounds([]int{9}), api.ErrCount},
		{"an empty row", few(), rows([]int{}), api.ErrCount},
		{"a row of a giver alone", few(), rows([]int{0}), api.ErrCount},
		{"a row of none", api.Swap{}, rows(nil), api.ErrCount},
		{"no such one", few(), rounds([]int{1, 4}), api.ErrWho},
		{"no such first one", few(), rounds([]int{4, 1}), api.ErrWho},
		{"no such one, below", few(), rows([]int{0, -1}), api.ErrWho},
		{"no such one, far away", few(), rows([]int{0, math.MaxInt}), api.ErrWho},
		{"no such one, far below", few(), rows([]int{math.MinInt, 0}), api.ErrWho},
		{"none there", api.Swap{}, rounds([]int{0, 0}), api.ErrWho},
		{"twice in a round", few(), rounds([]int{1, 2, 1}), api.ErrDouble},
		{"twice on the spot", few(), rounds([]int{1, 1}), api.ErrDouble},
		{"twice in a row", few(), rows([]int{0, 2, 0}), api.ErrDouble},
		{"in two rounds", few(), rounds([]int{1, 2}, []int{1, 2, 3}), api.ErrDouble},
		{"in a round and a row", few(), plan{[][]int{{1, 2}}, [][]int{{0, 2}}}, api.ErrDouble},
		{"in two rows", few(), rows([]int{0, 1}, []int{0, 2}), api.ErrDouble},
		{"twice ahead of what does not fit", few(), rounds([]int{3, 1, 3}), api.ErrDouble},
		{"the first one is used ahead of the second one that is not there", few(), rounds([]int{1, 2}, []int{2, 9}), api.ErrDouble},
		{"no such one ahead of one that is used", few(), rounds([]int{1, 2}, []int{9, 2}), api.ErrWho},
		{"does not fit", few(), rounds([]int{1, 3}), api.ErrState},
		{"does not fit, then no such one", few(), rounds([]int{1, 3, 9}), api.ErrState},
		{"does not fit, then twice", few(), rounds([]int{1, 3, 1}), api.ErrState},
		{"no such one, then does not fit", few(), rounds([]int{1, 9, 3}), api.ErrWho},
		{"a giver gets something", few(), rounds([]int{3, 0}), api.ErrState},
		{"does not fit in a row", few(), rows([]int{0, 3}), api.ErrState},
		{"a round too long", short, rounds([]int{1, 2, 3}), api.ErrState},
		{"a round where none may be", everyone(3, 0, 1, 3), rounds([]int{0, 1}), api.ErrState},
		{"a round where none at all may be", everyone(3, 0, 0, 3), rounds([]int{0, 1}), api.ErrState},
		{"a round that begins with a giver", few(), rounds([]int{0, 1}), api.ErrState},
		{"a round whose last one's gift does not fit the first", few(), rounds([]int{2, 3}), api.ErrState},
		{"a row too long", short, rows([]int{0, 2, 3}), api.ErrState},
		{"a row where none may be", everyone(3, 1, 3, 0), rows([]int{0, 1}), api.ErrState},
		{"a row that does not begin with a giver", few(), rows([]int{1, 2}), api.ErrState},
		{"a row like a round", few(), rows([]int{1, 2, 3}), api.ErrState},
		{"the first round ahead of the second one", few(), rounds([]int{2, 3}, nil), api.ErrState},
		{"the second round", few(), rounds([]int{1, 2}, nil), api.ErrCount},
		{"rounds ahead of rows", few(), plan{[][]int{{2, 3}}, [][]int{{}}}, api.ErrState},
		{"the second row", few(), rows([]int{0, 1}, []int{2, 3}), api.ErrState},
		{"too long ahead of the next one", short, rounds([]int{1, 2, 3}, []int{9, 9}), api.ErrState},
	} {
		if got, e := Check(c.s, c.p.rounds, c.p.rows); e != c.want || got != 0 {
			t.Errorf("%s: Check(%v, %v) = %d, %d, want error %d", c.what, c.s, c.p, got, e, c.want)
		}
	}
}

// says says of a plan that W1 lets be what W2 does, word by word.
func says(s api.Swap, p plan) (int, api.Errno) {
	gifts, used := 0, []int{}
	for i, c := range slices.Concat(p.rounds, p.rows) {
		if len(c) < 2 {
			return 0, api.ErrCount
		}
		for j, k := range c {
			if k < 0 || k >= len(s.Fits) {
				return 0, api.ErrWho
			}
			if slices.Contains(used, k) {
				return 0, api.ErrDouble
			}
			if j > 0 && !slices.Contains(s.Fits[c[j-1]], k) {
				return 0, api.ErrState
			}
			used = append(used, k)
		}
		if i < len(p.rounds) {
			if len(c) > s.Round || c[0] < s.Givers || !slices.Contains(s.Fits[c[len(c)-1]], c[0]) {
				return 0, api.ErrState
			}
			gifts += len(c)
		} else {
			if len(c)-1 > s.Row || c[0] >= s.Givers {
				return 0, api.ErrState
			}
			gifts += len(c) - 1
		}
	}
	return gifts, api.OK
}

// lists are all lists of numbers from -1 to n, of at most so many.
func lists(n, most int) [][]int {
	all, last := [][]int{nil}, [][]int{nil}
	for range most {
		var longer [][]int
		for _, l := range last {
			for k := -1; k <= n; k++ {
				longer = append(longer, append(slices.Clone(l), k))
			}
		}
		all, last = append(all, longer...), longer
	}
	return all
}

func TestW2AllPlans(t *testing.T) {
	d := die(1)
	one, two := lists(3, 4), lists(3, 2)
	for range 20 {
		s := d.swap(3, 2)
		var plans []plan
		for _, l := range one {
			plans = append(plans, rounds(l), rows(l))
			for _, m := range two {
				plans = append(plans, rounds(m, l), rows(m, l), plan{[][]int{m}, [][]int{l}})
			}
		}
		for _, p := range plans {
			want, e := says(s, p)
			if got, f := Check(s, p.rounds, p.rows); got != want || f != e {
				t.Fatalf("Check(%v, %v) = %d, %d, want %d, %d", s, p, got, f, want, e)
			}
		}
	}
}

// most is the most gifts by all ways to give: each one gives to one whom its gift fits, or not; nobody gets two.
func most(s api.Swap) int {
	to, from := slices.Repeat([]int{-1}, len(s.Fits)), slices.Repeat([]int{-1}, len(s.Fits))
	best := 0
	var give func(k int)
	give = func(k int) {
		if k == len(to) {
			best = max(best, count(s, to, from))
			return
		}
		give(k + 1)
		for _, j := range s.Fits[k] {
			if from[j] < 0 {
				to[k], from[j] = j, k
				give(k + 1)
				to[k], from[j] = -1, -1
			}
		}
	}
	give(0)
	return best
}

// count is how many gifts there are, or -1, if one gives that gets nothing and is no giver, or if a round or row is too long.
func count(s api.Swap, to, from []int) int {
	n := 0
	for k := range to {
		if to[k] < 0 {
			continue
		}
		n++
		if from[k] < 0 && k >= s.Givers {
			return -1
		}
		long, at := 0, k
		for at >= 0 && (long == 0 || at != k) {
			at = to[at]
			long++
		}
		if at == k && long > s.Round || at < 0 && long-1 > s.Row {
			return -1
		}
	}
	return n
}

func checkMost(t *testing.T, s api.Swap, want int) {
	t.Helper()
	a, b, e := Most(s)
	if n, f := Check(s, a, b); e != api.OK || f != api.OK || n != want {
		t.Fatalf("Most(%v) = %v, %v, %d: Check says %d, %d, want %d gifts", s, a, b, e, n, f, want)
	}
	if n, f := says(s, plan{a, b}); f != api.OK || n != want {
		t.Fatalf("Most(%v) = %v, %v: %d, %d, want %d gifts", s, a, b, n, f, want)
	}
}

func TestW3Most(t *testing.T) {
	for _, c := range []struct {
		what string
		s    api.Swap
		want int
	}{
		{"none", api.Swap{}, 0},
		{"one", api.Swap{Round: 1, Row: 1, Fits: [][]int{nil}}, 0},
		{"givers alone", everyone(8, 8, 8, 8), 0},
		{"few", few(), 3},
		{"a ring", ring(8, 8), 8},
		{"a ring that is too long", ring(8, 7), 0},
		{"two by two", everyone(8, 0, 2, 8), 8},
		{"three, three and two", everyone(8, 0, 3, 8), 8},
		{"two by two, one alone", everyone(7, 0, 2, 7), 6},
		{"no round may be", everyone(8, 0, 1, 8), 0},
		{"a row of all", everyone(8, 1, 0, 7), 7},
		{"a row of three, and rounds", everyone(8, 1, 2, 3), 7},
		{"a row of three", everyone(8, 1, 0, 3), 3},
		{"rows of two givers", everyone(8, 2, 0, 3), 6},
		{"rows of two givers that are short", everyone(8, 2, 1, 2), 4},
		{"rows of one gift", everyone(8, 4, 0, 1), 4},
		{"two givers, one who wants", everyone(3, 2, 0, 3), 1},
		{"no row may be", everyone(8, 3, 0, 0), 0},
		{"two small rounds, not the long one through the middle", api.Swap{Round: 3, Fits: [][]int{{1}, {0, 2}, {3, 4}, {2}, {1}}}, 4},
		{"the long round, not the first small one", api.Swap{Round: 3, Fits: [][]int{{1}, {0, 2}, {0}}}, 3},
		{"the first one is left out", api.Swap{Round: 2, Fits: [][]int{{1}, {0, 2}, {1, 3}, {2}}}, 4},
		{"the middle one is left out", api.Swap{Round: 2, Fits: [][]int{{1, 2}, {0}, {0}}}, 2},
		{"the giver goes without", api.Swap{Givers: 1, Round: 2, Row: 1, Fits: [][]int{{1}, {2}, {1}}}, 2},
		{"a row ends early for a round", api.Swap{Givers: 1, Round: 2, Row: 3, Fits: [][]int{{1}, {2}, {3}, {2}}}, 3},
	} {
		if n, e := Check(c.s, nil, nil); n != 0 || e != api.OK {
			t.Fatalf("%s: %d, %d", c.what, n, e)
		}
		checkMost(t, c.s, c.want)
	}
}

func TestW3AllWays(t *testing.T) {
	d := die(2)
	for n := range 6 {
		for range 400 {
			s := d.swap(n, 1+d.n(3))
			checkMost(t, s, most(s))
		}
	}
	for range 150 {
		s := d.swap(api.MaxSwaps, 3)
		checkMost(t, s, most(s))
	}
	for round := range 5 {
		for row := range 5 {
			s := everyone(4, 1, round, row)
			checkMost(t, s, most(s))
		}
	}
}

// No call writes into what is handed in, no two lists of an answer share memory, and what is asked again is answered alike.
func TestX2NothingIsSharedOrWritten(t *testing.T) {
	d := die(3)
	for range 300 {
		s := d.swap(api.MaxSwaps, 2)
		before := fmt.Sprint(s)
		a, b, _ := Most(s)
		told := fmt.Sprint(a, b)
		for _, l := range slices.Concat(a, b) {
			_ = append(l, 99)
		}
		_, _ = append(a, []int{99}), append(b, []int{99})
		Check(s, a, b)
		if fmt.Sprint(a, b) != told || fmt.Sprint(s) != before {
			t.Fatalf("%s: %s, then %v %v of %v", before, told, a, b, s)
		}
		all := slices.Concat(a, b)
		for i, l := range all {
			was := fmt.Sprint(all[i+1:])
			for j := range l {
				l[j] = 99
			}
			if fmt.Sprint(all[i+1:]) != was {
				t.Fatalf("%s: lists of %s share memory", before, told)
			}
		}
		if a, b, _ := Most(s); fmt.Sprint(a, b) != told || fmt.Sprint(s) != before {
			t.Fatalf("%s: %s, asked again %v %v", before, told, a, b)
		}
	}
}

// Whatever is handed in: no call panics, and with an error nothing else is told.
func TestX1AnySwap(t *testing.T) {
	d := die(4)
	odd := func() int { return []int{0, 1, 2, 3, 4, -1, math.MaxInt, math.MinInt}[min(d.n(8), d.n(8))] }
	list := func() []int {
		var l []int
		for range d.n(4) {
			l = append(l, odd())
		}
		return l
	}
	for range 30000 {
		s := api.Swap{Givers: odd(), Round: odd(), Row: odd()}
		if d.n(2) == 0 {
			s = d.swap(4, 2)
		}
		for range d.n(4) {
			s.Fits = append(s.Fits, list())
		}
		a, b, e := Most(s)
		n, f := Check(s, [][]int{list()}, [][]int{list()})
		if e != May(s) || e != api.OK && (f != e || len(a)+len(b) != 0) || f != api.OK && n != 0 {
			t.Fatalf("%v: Most %v %v %d, Check %d %d", s, a, b, e, n, f)
		}
	}
}
