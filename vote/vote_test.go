package vote_test

import (
	"fmt"
	"math"
	"slices"
	"testing"

	"agora/api"
	"agora/vote"
)

// die draws numbers that look drawn, the same each time.
type die uint64

func (d *die) n(most int) int {
	*d = *d*6364136223846793005 + 1442695040888963407
	return int(uint64(*d>>33) % uint64(most))
}

func (d *die) order(n int) []int {
	var l []int
	for k := range n {
		l = slices.Insert(l, d.n(len(l)+1), k)
	}
	return l
}

// ballots are at most so many, which count for less than most each.
func (d *die) ballots(n, many, most int) []api.Ballot {
	var l []api.Ballot
	for range d.n(many + 1) {
		l = append(l, api.Ballot{Count: d.n(most), Order: d.order(n)})
	}
	return l
}

// drawn calls f with ballots of all kinds: few and many, with ties and without.
func drawn(f func(n int, l []api.Ballot)) {
	d := die(5)
	for i := range 600 {
		n := 1 + i%api.MaxThings
		switch i % 4 {
		case 0:
			f(n, d.ballots(n, 4, 3))
		case 1:
			f(n, d.ballots(n, 7, 6))
		case 2:
			f(n, d.ballots(n, 3, 2))
		case 3:
			f(n, d.ballots(n, api.MaxBallots, 1+d.n(api.MaxCount+1)))
		}
	}
}

// cycle: more rank 0 above 1, 1 above 2, and 2 above 0, than not.
func cycle() []api.Ballot {
	return []api.Ballot{{Count: 3, Order: []int{0, 1, 2}}, {Count: 2, Order: []int{1, 2, 0}}, {Count: 2, Order: []int{2, 0, 1}}}
}

// five things, of which no one beats all others.
func five() []api.Ballot {
	return []api.Ballot{
		{Count: 5, Order: []int{0, 2, 1, 4, 3}}, {Count: 5, Order: []int{0, 3, 4, 2, 1}}, {Count: 8, Order: []int{1, 4, 3, 0, 2}}, {Count: 3, Order: []int{2, 0, 1, 4, 3}},
		{Count: 7, Order: []int{2, 0, 4, 1, 3}}, {Count: 2, Order: []int{2, 1, 0, 3, 4}}, {Count: 7, Order: []int{3, 2, 4, 1, 0}}, {Count: 8, Order: []int{4, 1, 0, 3, 2}},
	}
}

// above says whether an order ranks x above y.
func above(o []int, x, y int) bool { return slices.Index(o, x) < slices.Index(o, y) }

// rank is how many voters rank x above y.
func rank(l []api.Ballot, x, y int) int {
	sum := 0
	for _, b := range l {
		if above(b.Order, x, y) {
			sum += b.Count
		}
	}
	return sum
}

func beats(l []api.Ballot, x, y int) bool { return rank(l, x, y) > rank(l, y, x) }

// everyOrder are all orders of n, in order.
func everyOrder(n int) [][]int {
	all := [][]int{nil}
	for k := range n {
		var longer [][]int
		for _, l := range all {
			for i := range k + 1 {
				longer = append(longer, slices.Insert(slices.Clone(l), i, k))
			}
		}
		all = longer
	}
	slices.SortFunc(all, slices.Compare)
	return all
}

// all calls, with what each one answers as a text.
func answers(n int, l []api.Ballot) []string {
	var out []string
	for _, f := range lists() {
		a, e := f(n, l)
		out = append(out, fmt.Sprint(a, e))
	}
	for _, f := range tables() {
		a, e := f(n, l)
		out = append(out, fmt.Sprint(a, e))
	}
	c, e := vote.Condorcet(n, l)
	return append(out, fmt.Sprint(c, e), fmt.Sprint(vote.May(n, l)))
}

func lists() []func(int, []api.Ballot) ([]int, api.Errno) {
	return []func(int, []api.Ballot) ([]int, api.Errno){vote.Firsts, vote.Borda, vote.Copeland, vote.Smith, vote.Schulze, vote.Runoff, vote.Kemeny}
}

func tables() []func(int, []api.Ballot) ([][]int, api.Errno) {
	return []func(int, []api.Ballot) ([][]int, api.Errno){vote.Pairs, vote.Paths}
}

type fault struct {
	n    int
	l    []api.Ballot
	want api.Errno
}

// faults are ballots that may not be, with what is said of them.
func faults() []fault {
	good := api.Ballot{Count: 1, Order: []int{1, 0}}
	of := func(count int, order ...int) []api.Ballot {
		return []api.Ballot{good, {Count: count, Order: order}, good}
	}
	many := slices.Repeat([]api.Ballot{good}, api.MaxBallots+1)
	return []fault{
		{0, nil, api.ErrCount}, {-1, nil, api.ErrCount}, {api.MaxThings + 1, nil, api.ErrCount}, {math.MinInt, nil, api.ErrCount}, {math.MaxInt, nil, api.ErrCount},
		{0, []api.Ballot{{}}, api.ErrCount}, {7, []api.Ballot{{Count: 1, Order: []int{0, 1, 2, 3, 4, 5, 6}}}, api.ErrCount}, {0, many, api.ErrCount},
		{2, many, api.ErrLimit}, {3, many, api.ErrLimit}, {2, append(of(-1, 9), many...), api.ErrLimit},
		{2, of(1), api.ErrCount}, {2, of(1, 0), api.ErrCount}, {2, of(1, 0, 1, 2), api.ErrCount}, {2, of(1, 7, 7, 7), api.ErrCount}, {3, of(1, 0, 1, 2), api.ErrCount}, {2, of(-1, 0), api.ErrCount},
		{2, of(1, 0, 2), api.ErrWho}, {2, of(1, -1, 0), api.ErrWho}, {2, of(1, 2, 2), api.ErrWho}, {2, of(-1, 0, 2), api.ErrWho}, {2, of(1, math.MaxInt, math.MinInt), api.ErrWho},
		{2, of(1, 0, 0), api.ErrDouble}, {2, of(1, 1, 1), api.ErrDouble}, {2, of(1001, 1, 1), api.ErrDouble},
		{2, of(-1, 0, 1), api.ErrValue}, {2, of(api.MaxCount+1, 0, 1), api.ErrValue}, {2, of(math.MaxInt, 0, 1), api.ErrValue}, {2, of(math.MinInt, 0, 1), api.ErrValue},
		// Ballot by ballot: what is wrong with the first one is told.
		{2, append(of(-1, 0, 1), of(1, 0, 0)...), api.ErrValue}, {2, append(of(1, 0, 0), of(1, 0)...), api.ErrDouble},
	}
}

func TestV1May(t *testing.T) {
	for _, c := range faults() {
		if e := vote.May(c.n, c.l); e != c.want {
			t.Errorf("May(%d, %v): %d, not %d", c.n, c.l, e, c.want)
		}
	}
	most := slices.Repeat([]api.Ballot{{Count: api.MaxCount, Order: []int{5, 4, 3, 2, 1, 0}}}, api.MaxBallots)
	for _, c := range []fault{
		{1, nil, api.OK}, {api.MaxThings, nil, api.OK}, {1, []api.Ballot{{Count: 0, Order: []int{0}}}, api.OK}, {3, cycle(), api.OK}, {5, five(), api.OK}, {api.MaxThings, most, api.OK},
	} {
		if e := vote.May(c.n, c.l); e != c.want {
			t.Errorf("May(%d, %v): %d, not %d", c.n, c.l, e, c.want)
		}
	}
}

func TestV1AllCallsSayIt(t *testing.T) {
	for _, c := range faults() {
		for i, f := range lists() {
			if a, e := f(c.n, c.l); e != c.want || len(a) != 0 {
				t.Errorf("call %d of %d, %v: %v, %d, not %d", i, c.n, c.l, a, e, c.want)
			}
		}
		for i, f := range tables() {
			if a, e := f(c.n, c.l); e != c.want || len(a) != 0 {
				t.Errorf("table %d of %d, %v: %v, %d, not %d", i, c.n, c.l, a, e, c.want)
			}
		}
		if k, e := vote.Condorcet(c.n, c.l); e != c.want || k != 0 {
			t.Errorf("Condorcet of %d, %v: %d, %d, not %d", c.n, c.l, k, e, c.want)
		}
		// An order that is wrong, too, is looked at behind the ballots.
		for _, o := range [][]int{{0, 1}, {0, 0}, {2, 0}, nil} {
			if k, e := vote.Against(c.n, c.l, o); e != c.want || k != 0 {
				t.Errorf("Against of %d, %v, %v: %d, %d, not %d", c.n, c.l, o, k, e, c.want)
			}
		}
	}
}

// told asks for what one of the calls answers of ballots that may be.
func told[T any](t *testing.T, f func(int, []api.Ballot) (T, api.Errno), n int, l []api.Ballot) T {
	t.Helper()
	a, e := f(n, l)
	if e != api.OK {
		t.Fatalf("%d, %v: error %d", n, l, e)
	}
	return a
}

// want says whether a call's answer, as a text, is what it should be.
func want(t *testing.T, what string, got any, text string) {
	t.Helper()
	if s := fmt.Sprint(got); s != text {
		t.Errorf("%s: %s, not %s", what, s, text)
	}
}

func TestV2Examples(t *testing.T) {
	want(t, "Pairs", told(t, vote.Pairs, 3, cycle()), "[[0 5 3] [2 0 5] [4 2 0]]")
	want(t, "Firsts", told(t, vote.Firsts, 3, cycle()), "[3 2 2]")
	want(t, "Borda", told(t, vote.Borda, 3, cycle()), "[8 7 6]")
	want(t, "Copeland", told(t, vote.Copeland, 3, cycle()), "[0 0 0]")
	want(t, "Condorcet", told(t, vote.Condorcet, 3, cycle()), "-1")
	want(t, "Smith", told(t, vote.Smith, 3, cycle()), "[0 1 2]")
	want(t, "Pairs", told(t, vote.Pairs, 5, five()), "[[0 20 26 30 22] [25 0 16 33 18] [19 29 0 17 24] [15 12 28 0 14] [23 27 21 31 0]]")
	want(t, "Copeland", told(t, vote.Copeland, 5, five()), "[0 0 0 -2 2]")
	// 3 beats nobody, and 1 all; 0 and 2 are even.
	l := []api.Ballot{{Count: 1, Order: []int{1, 0, 2, 3}}, {Count: 1, Order: []int{2, 1, 0, 3}}, {Count: 0, Order: []int{3, 2, 0, 1}}, {Count: 2, Order: []int{1, 0, 2, 3}}, {Count: 2, Order: []int{1, 2, 0, 3}}}
	want(t, "Pairs", told(t, vote.Pairs, 4, l), "[[0 0 3 6] [6 0 5 6] [3 1 0 6] [0 0 0 0]]")
	want(t, "Firsts", told(t, vote.Firsts, 4, l), "[0 5 1 0]")
	want(t, "Borda", told(t, vote.Borda, 4, l), "[9 17 10 0]")
	want(t, "Copeland", told(t, vote.Copeland, 4, l), "[0 3 0 -3]")
	want(t, "Condorcet", told(t, vote.Condorcet, 4, l), "1")
	want(t, "Smith", told(t, vote.Smith, 4, l), "[1]")
}

// Of one thing, and without a voter.
func TestV2Edges(t *testing.T) {
	for _, l := range [][]api.Ballot{nil, {{Count: 0, Order: []int{0}}}, {{Count: 2, Order: []int{0}}}} {
		want(t, "Pairs", told(t, vote.Pairs, 1, l), "[[0]]")
		want(t, "Copeland", told(t, vote.Copeland, 1, l), "[0]")
		want(t, "Borda", told(t, vote.Borda, 1, l), "[0]")
		want(t, "Condorcet", told(t, vote.Condorcet, 1, l), "0")
		want(t, "Smith", told(t, vote.Smith, 1, l), "[0]")
	}
	want(t, "Firsts", told(t, vote.Firsts, 1, nil), "[0]")
	want(t, "Firsts", told(t, vote.Firsts, 1, []api.Ballot{{Count: 2, Order: []int{0}}}), "[2]")
	for _, l := range [][]api.Ballot{nil, {{Count: 0, Order: []int{1, 0}}}, {{Count: 4, Order: []int{1, 0}}, {Count: 4, Order: []int{0, 1}}}} {
		want(t, "Copeland", told(t, vote.Copeland, 2, l), "[0 0]")
		want(t, "Condorcet", told(t, vote.Condorcet, 2, l), "-1")
		want(t, "Smith", told(t, vote.Smith, 2, l), "[0 1]")
	}
	most := slices.Repeat([]api.Ballot{{Count: api.MaxCount, Order: []int{1, 0}}}, api.MaxBallots)
	want(t, "Pairs", told(t, vote.Pairs, 2, most), "[[0 0] [30000 0]]")
	want(t, "Firsts", told(t, vote.Firsts, 2, most), "[0 30000]")
	want(t, "Condorcet", told(t, vote.Condorcet, 2, most), "1")
}

// smith are the fewest things of which each beats each other one, by all sets.
func smith(n int, l []api.Ballot) []int {
	var fewest []int
	for set := 1; set < 1<<n; set++ {
		var in, out []int
		for k := range n {
			if set>>k&1 == 1 {
				in = append(in, k)
			} else {
				out = append(out, k)
			}
		}
		fine := true
		for _, x := range in {
			for _, y := range out {
				fine = fine && beats(l, x, y)
			}
		}
		if fine && (fewest == nil || len(in) < len(fewest)) {
			fewest = in
		}
	}
	return fewest
}

func TestV2Counts(t *testing.T) {
	drawn(func(n int, l []api.Ballot) {
		pairs, firsts, borda, copeland := told(t, vote.Pairs, n, l), told(t, vote.Firsts, n, l), told(t, vote.Borda, n, l), told(t, vote.Copeland, n, l)
		if len(pairs) != n || len(firsts) != n || len(borda) != n || len(copeland) != n {
			t.Fatalf("%d, %v: not as many as things", n, l)
		}
		best := -1
		for x := range n {
			below, first, score, all := 0, 0, 0, true
			for y := range n {
				below += rank(l, x, y)
				if pairs[x][y] != rank(l, x, y) {
					t.Errorf("%d, %v: Pairs %v", n, l, pairs)
				}
				if beats(l, x, y) {
					score++
				}
				if beats(l, y, x) {
					score--
				}
				all = all && (x == y || beats(l, x, y))
			}
			for _, b := range l {
				if b.Order[0] == x {
					first += b.Count
				}
			}
			if all {
				best = x
			}
			if firsts[x] != first || borda[x] != below || copeland[x] != score {
				t.Errorf("%d, %v: Firsts %v, Borda %v, Copeland %v", n, l, firsts, borda, copeland)
			}
		}
		if c := told(t, vote.Condorcet, n, l); c != best {
			t.Errorf("%d, %v: Condorcet %d, not %d", n, l, c, best)
		}
		if s := told(t, vote.Smith, n, l); !slices.Equal(s, smith(n, l)) {
			t.Errorf("%d, %v: Smith %v, not %v", n, l, s, smith(n, l))
		}
	})
}

// strongest is how strong the strongest way is that goes on from row to a thing, by all ways.
func strongest(n int, l []api.Ballot, row []int, to, strength int) int {
	last, best := row[len(row)-1], 0
	if last == to {
		return strength
	}
	for k := range n {
		if beats(l, last, k) && !slices.Contains(row, k) {
			longer := append(slices.Clone(row), k)
			best = max(best, strongest(n, l, longer, to, min(strength, rank(l, last, k))))
		}
	}
	return best
}

func TestV3Examples(t *testing.T) {
	want(t, "Paths", told(t, vote.Paths, 3, cycle()), "[[0 5 5] [4 0 5] [4 4 0]]")
	want(t, "Schulze", told(t, vote.Schulze, 3, cycle()), "[0]")
	want(t, "Paths", told(t, vote.Paths, 5, five()), "[[0 28 28 30 24] [25 0 28 33 24] [25 29 0 29 24] [25 28 28 0 24] [25 28 28 31 0]]")
	want(t, "Schulze", told(t, vote.Schulze, 5, five()), "[4]")
	// Nobody beats anybody: there is no way, however many voters rank so.
	even := []api.Ballot{{Count: 4, Order: []int{2, 1, 0}}, {Count: 4, Order: []int{0, 1, 2}}}
	want(t, "Paths", told(t, vote.Paths, 3, even), "[[0 0 0] [0 0 0] [0 0 0]]")
	want(t, "Schulze", told(t, vote.Schulze, 3, even), "[0 1 2]")
	want(t, "Paths", told(t, vote.Paths, 2, nil), "[[0 0] [0 0]]")
	want(t, "Schulze", told(t, vote.Schulze, 2, nil), "[0 1]")
	want(t, "Paths", told(t, vote.Paths, 1, nil), "[[0]]")
	want(t, "Schulze", told(t, vote.Schulze, 1, nil), "[0]")
	// 0 and 2 both beat 1, and are even.
	two := []api.Ballot{{Count: 2, Order: []int{0, 2, 1}}, {Count: 2, Order: []int{2, 0, 1}}}
	want(t, "Paths", told(t, vote.Paths, 3, two), "[[0 4 0] [0 0 0] [0 4 0]]")
	want(t, "Schulze", told(t, vote.Schulze, 3, two), "[0 2]")
}

func TestV3Ways(t *testing.T) {
	drawn(func(n int, l []api.Ballot) {
		ways := table(n)
		for x := range n {
			for y := range n {
				if x != y {
					ways[x][y] = strongest(n, l, []int{x}, y, math.MaxInt)
				}
			}
		}
		want(t, fmt.Sprint("Paths ", n, l), told(t, vote.Paths, n, l), fmt.Sprint(ways))
		var stand []int
		for x := range n {
			if !slices.ContainsFunc(seq(n), func(y int) bool { return ways[y][x] > ways[x][y] }) {
				stand = append(stand, x)
			}
		}
		want(t, fmt.Sprint("Schulze ", n, l), told(t, vote.Schulze, n, l), fmt.Sprint(stand))
	})
}

func table(n int) [][]int {
	var t [][]int
	for range n {
		t = append(t, make([]int, n))
	}
	return t
}

// seq are the numbers below n.
func seq(n int) []int {
	var l []int
	for k := range n {
		l = append(l, k)
	}
	return l
}

func TestV4Examples(t *testing.T) {
	want(t, "Runoff", told(t, vote.Runoff, 3, cycle()), "[2 1 0]")
	want(t, "Kemeny", told(t, vote.Kemeny, 3, cycle()), "[0 1 2]")
	// Without a voter the greatest number goes, and all orders are the same.
	want(t, "Runoff", told(t, vote.Runoff, 4, nil), "[3 2 1 0]")
	want(t, "Kemeny", told(t, vote.Kemeny, 4, nil), "[0 1 2 3]")
	want(t, "Runoff", told(t, vote.Runoff, 1, nil), "[0]")
	want(t, "Kemeny", told(t, vote.Kemeny, 1, nil), "[0]")
	// The voters of the one that goes count for their next one: 1 has the most at last, though 0 had at first.
	l := []api.Ballot{{Count: 4, Order: []int{0, 1, 2}}, {Count: 3, Order: []int{1, 2, 0}}, {Count: 2, Order: []int{2, 1, 0}}}
	want(t, "Runoff", told(t, vote.Runoff, 3, l), "[2 0 1]")
	want(t, "Kemeny", told(t, vote.Kemeny, 3, l), "[1 2 0]")
	// Those of 3 go over to 2, which would go else.
	l = []api.Ballot{{Count: 3, Order: []int{0, 1, 2, 3}}, {Count: 2, Order: []int{1, 0, 2, 3}}, {Count: 2, Order: []int{2, 0, 1, 3}}, {Count: 1, Order: []int{3, 2, 0, 1}}}
	want(t, "Runoff", told(t, vote.Runoff, 4, l), "[3 1 2 0]")
	// Of two best orders the first one in order.
	l = []api.Ballot{{Count: 2, Order: []int{2, 1, 0}}, {Count: 2, Order: []int{1, 2, 0}}}
	want(t, "Kemeny", told(t, vote.Kemeny, 3, l), "[1 2 0]")
}

func TestV4Against(t *testing.T) {
	for _, c := range []struct {
		o    []int
		want int
		e    api.Errno
	}{
		{[]int{0, 1, 2}, 8, api.OK}, {[]int{0, 2, 1}, 11, api.OK}, {[]int{1, 0, 2}, 11, api.OK}, {[]int{1, 2, 0}, 10, api.OK}, {[]int{2, 0, 1}, 10, api.OK}, {[]int{2, 1, 0}, 13, api.OK},
		{nil, 0, api.ErrCount}, {[]int{0, 1}, 0, api.ErrCount}, {[]int{0, 1, 2, 3}, 0, api.ErrCount}, {[]int{0, 9}, 0, api.ErrCount},
		{[]int{0, 1, 3}, 0, api.ErrWho}, {[]int{-1, 0, 0}, 0, api.ErrWho}, {[]int{0, 3, 0}, 0, api.ErrWho}, {[]int{0, 0, 3}, 0, api.ErrDouble}, {[]int{2, 1, 2}, 0, api.ErrDouble},
	} {
		if k, e := vote.Against(3, cycle(), c.o); k != c.want || e != c.e {
			t.Errorf("Against %v: %d, %d, not %d, %d", c.o, k, e, c.want, c.e)
		}
	}
	if k, e := vote.Against(1, nil, []int{0}); k != 0 || e != api.OK {
		t.Errorf("Against of one thing: %d, %d", k, e)
	}
}

// goes are the things in the order in which they go, each found by all ballots anew.
func goes(n int, l []api.Ballot) []int {
	var out []int
	left := seq(n)
	for len(left) > 0 {
		at, fewest := 0, math.MaxInt
		for i, x := range left {
			top := 0
			for _, b := range l {
				if !slices.ContainsFunc(left, func(y int) bool { return above(b.Order, y, x) }) {
					top += b.Count
				}
			}
			if top <= fewest {
				at, fewest = i, top
			}
		}
		out = append(out, left[at])
		left = slices.Delete(left, at, at+1)
	}
	return out
}

func TestV4Orders(t *testing.T) {
	d := die(9)
	drawn(func(n int, l []api.Ballot) {
		want(t, fmt.Sprint("Runoff ", n, l), told(t, vote.Runoff, n, l), fmt.Sprint(goes(n, l)))
		o := d.order(n)
		if k, e := vote.Against(n, l, o); k != speak(l, o) || e != api.OK {
			t.Errorf("%d, %v: Against %v: %d, %d", n, l, o, k, e)
		}
		if n > 5 && len(l) > 8 {
			return
		}
		var first []int
		least := math.MaxInt
		for _, o := range everyOrder(n) {
			if k := speak(l, o); k < least {
				first, least = o, k
			}
		}
		want(t, fmt.Sprint("Kemeny ", n, l), told(t, vote.Kemeny, n, l), fmt.Sprint(first))
	})
}

// speak is how often ballots say otherwise than o.
func speak(l []api.Ballot, o []int) int {
	sum := 0
	for _, b := range l {
		for x := range o {
			for y := range x {
				if above(b.Order, x, y) != above(o, x, y) {
					sum += b.Count
				}
			}
		}
	}
	return sum
}

// What follows: the one of Condorcet is Smith, Schulze and the first of Kemeny, alone; all of Schulze are of Smith.
func TestV4SoOneBeatsAll(t *testing.T) {
	seen := 0
	drawn(func(n int, l []api.Ballot) {
		c, smith, schulze, kemeny := told(t, vote.Condorcet, n, l), told(t, vote.Smith, n, l), told(t, vote.Schulze, n, l), told(t, vote.Kemeny, n, l)
		if len(schulze) == 0 {
			t.Errorf("%d, %v: nobody is of Schulze", n, l)
		}
		for _, k := range schulze {
			if !slices.Contains(smith, k) {
				t.Errorf("%d, %v: %d is of Schulze, not of Smith", n, l, k)
			}
		}
		if c < 0 {
			return
		}
		seen++
		if one := []int{c}; !slices.Equal(smith, one) || !slices.Equal(schulze, one) || kemeny[0] != c {
			t.Errorf("%d, %v: Condorcet %d, Smith %v, Schulze %v, Kemeny %v", n, l, c, smith, schulze, kemeny)
		}
	})
	if seen < 50 {
		t.Errorf("one beats all %d times: too few to tell", seen)
	}
}

// What follows: to be ranked higher never drives one out of Schulze.
func TestV3SoHigherIsNoWorse(t *testing.T) {
	d := die(3)
	drawn(func(n int, l []api.Ballot) {
		if len(l) == 0 {
			return
		}
		for _, k := range told(t, vote.Schulze, n, l) {
			higher := slices.Clone(l)
			i := d.n(len(l))
			o := slices.Clone(l[i].Order)
			at := slices.Index(o, k)
			higher[i].Order = slices.Insert(slices.Delete(o, at, at+1), d.n(at+1), k)
			if s := told(t, vote.Schulze, n, higher); !slices.Contains(s, k) {
				t.Errorf("%d, %v: %d is of Schulze, ranked higher (%v) it is not", n, l, k, higher)
			}
		}
	})
}

// It does not matter how voters who rank alike are put together, nor in which order ballots stand.
func TestV1VotersCount(t *testing.T) {
	d := die(11)
	drawn(func(n int, l []api.Ballot) {
		if len(l) > api.MaxBallots/2 {
			return
		}
		var apart []api.Ballot
		for _, b := range l {
			some := d.n(b.Count + 1)
			apart = slices.Insert(apart, d.n(len(apart)+1), api.Ballot{Count: some, Order: b.Order})
			apart = slices.Insert(apart, d.n(len(apart)+1), api.Ballot{Count: b.Count - some, Order: b.Order})
		}
		if a, b := answers(n, l), answers(n, apart); !slices.Equal(a, b) {
			t.Errorf("%d, %v: %v, put together otherwise %v", n, l, a, b)
		}
	})
}

func TestX1NothingPanics(t *testing.T) {
	d := die(13)
	for range 3000 {
		n := d.n(9) - 1
		var l []api.Ballot
		for range d.n(4) {
			b := api.Ballot{Count: d.n(1003) - 1}
			for range max(0, n+d.n(8)/7) {
				b.Order = append(b.Order, d.n(max(1, n)))
			}
			if d.n(3) > 0 && n > 0 {
				b.Order = d.order(n)
			}
			l = append(l, b)
		}
		e := vote.May(n, l)
		for _, f := range lists() {
			if a, got := f(n, l); got != e || (e != api.OK) != (len(a) == 0) {
				t.Errorf("%d, %v: %v, %d, not %d", n, l, a, got, e)
			}
		}
		for _, f := range tables() {
			if a, got := f(n, l); got != e || (e != api.OK) != (len(a) == 0) {
				t.Errorf("%d, %v: %v, %d, not %d", n, l, a, got, e)
			}
		}
		vote.Condorcet(n, l)
		vote.Against(n, l, []int{d.n(7) - 1, d.n(7) - 1, d.n(7) - 1}[:d.n(4)])
	}
}

func copyOf(l []api.Ballot) []api.Ballot {
	l = slices.Clone(l)
	for i := range l {
		l[i].Order = slices.Clone(l[i].Order)
	}
	return l
}

func TestX2NothingIsKeptOrShared(t *testing.T) {
	drawn(func(n int, l []api.Ballot) {
		given := copyOf(l)
		before := answers(n, l)
		for _, f := range lists() {
			a, _ := f(n, l)
			for i := range a {
				a[i] = -7
			}
			_ = append(a, -7)
		}
		for _, f := range tables() {
			a, _ := f(n, l)
			for i, row := range a {
				rest := fmt.Sprint(a[i+1:])
				for k := range row {
					row[k] = -7
				}
				_ = append(row, -7)
				if fmt.Sprint(a[i+1:]) != rest {
					t.Errorf("%d, %v: rows share memory", n, l)
				}
			}
		}
		o := seq(n)
		vote.Against(n, l, o)
		if fmt.Sprint(l) != fmt.Sprint(given) || !slices.Equal(o, seq(n)) {
			t.Errorf("%v was written into: %v, %v", given, l, o)
		}
		if after := answers(n, l); !slices.Equal(before, after) {
			t.Errorf("%d, %v: %v, asked again %v", n, l, before, after)
		}
	})
}
