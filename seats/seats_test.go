package seats_test

import (
	"fmt"
	"math"
	"math/big"
	"slices"
	"testing"

	"agora/api"
	"agora/seats"
)

// die draws numbers that look drawn, the same each time.
type die uint64

func (d *die) n(most int) int {
	*d = *d*6364136223846793005 + 1442695040888963407
	return int(uint64(*d>>33) % uint64(most))
}

// votes of so many parties, less than most each, not all of them 0.
func (d *die) votes(parties, most int) []int {
	var l []int
	for range parties {
		l = append(l, d.n(most))
	}
	if sum(l) == 0 {
		l[d.n(parties)] = 1
	}
	return l
}

// drawn calls f with votes of all kinds: few (with many ties) and many, and houses of all sizes.
func drawn(f func(votes []int, house int)) {
	d := die(8)
	mosts := []int{2, 4, 13, 1000, api.MaxVotes + 1}
	for i := range 600 {
		v := d.votes(1+i%api.MaxParties, mosts[i%len(mosts)])
		switch i % 3 {
		case 0:
			f(v, d.n(8))
		case 1:
			f(v, d.n(40))
		case 2:
			f(v, d.n(api.MaxHouse+1))
		}
	}
	f(slices.Repeat([]int{api.MaxVotes}, api.MaxParties), api.MaxHouse)
	f([]int{api.MaxVotes, api.MaxVotes - 1, 1}, api.MaxHouse)
}

func sum(l []int) int {
	all := 0
	for _, n := range l {
		all += n
	}
	return all
}

// is fails, unless an answer is OK and as it should be.
func is[T any](t *testing.T, what string, got T, e api.Errno, want T) {
	t.Helper()
	if e != api.OK || fmt.Sprint(got) != fmt.Sprint(want) {
		t.Errorf("%s: %v, error %d; want %v", what, got, e, want)
	}
}

func divide(t *testing.T, rule int, votes []int, house int) []int {
	t.Helper()
	l, e := seats.Divide(rule, votes, house)
	if e != api.OK || len(l) != len(votes) || sum(l) != house {
		t.Fatalf("Divide(%d, %v, %d): %v, error %d", rule, votes, house, l, e)
	}
	return l
}

func hamilton(t *testing.T, votes []int, house int) []int {
	t.Helper()
	l, e := seats.Hamilton(votes, house)
	if e != api.OK || len(l) != len(votes) || sum(l) != house {
		t.Fatalf("Hamilton(%v, %d): %v, error %d", votes, house, l, e)
	}
	return l
}

// calls are all of them, with their error and whether the rest is empty.
func calls(votes []int, house int) map[string]struct {
	e     api.Errno
	empty bool
} {
	type said = struct {
		e     api.Errno
		empty bool
	}
	all := map[string]said{"May": {seats.May(votes, house), true}}
	for rule := range 6 {
		l, e := seats.Divide(rule, votes, house)
		all[fmt.Sprint("Divide ", rule)] = said{e, len(l) == 0}
	}
	q, e := seats.Quota(votes, house)
	all["Quota"] = said{e, len(q) == 0}
	h, e := seats.Hamilton(votes, house)
	all["Hamilton"] = said{e, len(h) == 0}
	a, e := seats.Alabama(votes, house)
	all["Alabama"] = said{e, !a}
	return all
}

func TestP1May(t *testing.T) {
	most := slices.Repeat([]int{api.MaxVotes}, api.MaxParties)
	good := []struct {
		votes []int
		house int
	}{
		{[]int{1}, 0}, {[]int{1}, api.MaxHouse}, {[]int{0, 1}, 3}, {[]int{1, 0, 0}, 3}, {[]int{api.MaxVotes}, 1},
		{most, 0}, {most, api.MaxHouse}, {[]int{0, 0, 0, 0, 0, 0, 0, 1}, 7}, {[]int{340, 280, 160, 60, 15}, 7},
	}
	for _, g := range good {
		if e := seats.May(g.votes, g.house); e != api.OK {
			t.Errorf("May(%v, %d): error %d", g.votes, g.house, e)
		}
	}
}

func TestP1AllCallsSayItFirst(t *testing.T) {
	nine := slices.Repeat([]int{1}, api.MaxParties+1)
	bad := []struct {
		votes []int
		house int
		want  api.Errno
	}{
		{nil, 5, api.ErrCount}, {[]int{}, 5, api.ErrCount}, {nine, 5, api.ErrCount}, {nil, -1, api.ErrCount}, {nine, 201, api.ErrCount},
		{append([]int{-1}, nine...), 5, api.ErrCount}, {make([]int, api.MaxParties+1), 5, api.ErrCount},
		{[]int{-1}, 5, api.ErrValue}, {[]int{3, -1}, 5, api.ErrValue}, {[]int{api.MaxVotes + 1, 3}, 5, api.ErrValue}, {[]int{3, 4, api.MaxVotes + 1}, 5, api.ErrValue},
		{[]int{1, -1}, 5, api.ErrValue}, {[]int{-1, 0}, api.MaxHouse + 1, api.ErrValue}, {[]int{math.MaxInt, math.MaxInt, 2}, 5, api.ErrValue}, {[]int{math.MinInt, math.MinInt}, -5, api.ErrValue},
		{[]int{1, 2}, -1, api.ErrLimit}, {[]int{1, 2}, api.MaxHouse + 1, api.ErrLimit}, {[]int{0, 0}, -1, api.ErrLimit}, {[]int{0}, api.MaxHouse + 1, api.ErrLimit},
		{[]int{1}, math.MinInt, api.ErrLimit}, {[]int{1}, math.MaxInt, api.ErrLimit},
		{[]int{0}, 0, api.ErrZero}, {[]int{0, 0, 0}, 5, api.ErrZero}, {make([]int, api.MaxParties), api.MaxHouse, api.ErrZero},
	}
	for _, b := range bad {
		for name, said := range calls(b.votes, b.house) {
			if said.e != b.want || !said.empty {
				t.Errorf("%s(%v, %d): error %d, nothing else: %v; want %d", name, b.votes, b.house, said.e, said.empty, b.want)
			}
		}
	}
}

func TestP2WrongRule(t *testing.T) {
	for _, rule := range []int{0, -1, 5, 6, math.MinInt, math.MaxInt} {
		for _, house := range []int{0, 5} {
			if l, e := seats.Divide(rule, []int{3, 2}, house); e != api.ErrWho || len(l) != 0 {
				t.Errorf("Divide(%d, .., %d): %v, error %d; want %d", rule, house, l, e, api.ErrWho)
			}
		}
	}
}

func TestP2Divide(t *testing.T) {
	cases := []struct {
		rule  int
		votes []int
		house int
		want  []int
	}{
		{4, []int{340, 280, 160, 60, 15}, 7, []int{3, 3, 1, 0, 0}},
		{3, []int{340, 280, 160, 60, 15}, 7, []int{3, 2, 1, 1, 0}},
		{1, []int{340, 280, 160, 60, 15}, 7, []int{2, 2, 1, 1, 1}},
		{2, []int{340, 280, 160, 60, 15}, 7, []int{2, 2, 1, 1, 1}},
		// Where nobody has a seat the most votes come first, by rules 1 and 2, too; where all have one rule 2 is apart from rule 1 and rule 3.
		{1, []int{1, 5, 3}, 1, []int{0, 1, 0}}, {1, []int{1, 5, 3}, 2, []int{0, 1, 1}}, {1, []int{1, 100, 3}, 3, []int{1, 1, 1}},
		{2, []int{1, 5, 3}, 1, []int{0, 1, 0}}, {2, []int{1, 5, 3}, 2, []int{0, 1, 1}}, {2, []int{1, 100, 3}, 3, []int{1, 1, 1}},
		{3, []int{1, 100, 3}, 3, []int{0, 3, 0}}, {4, []int{1, 100, 3}, 3, []int{0, 3, 0}},
		{1, []int{29, 20}, 4, []int{2, 2}}, {1, []int{29, 14}, 4, []int{3, 1}}, {2, []int{29, 16}, 4, []int{3, 1}}, {2, []int{29, 17}, 4, []int{2, 2}}, {3, []int{29, 17}, 4, []int{3, 1}}, {3, []int{29, 18}, 4, []int{2, 2}},
		// Of several the first.
		{1, []int{2, 2, 2}, 4, []int{2, 1, 1}}, {2, []int{2, 2, 2}, 5, []int{2, 2, 1}}, {3, []int{2, 2, 2}, 1, []int{1, 0, 0}}, {4, []int{2, 2, 2}, 2, []int{1, 1, 0}},
		{4, []int{1, 2}, 2, []int{1, 1}}, {4, []int{2, 1}, 2, []int{2, 0}}, {3, []int{1, 3}, 2, []int{1, 1}}, {3, []int{3, 1}, 2, []int{2, 0}}, {1, []int{1, 2}, 4, []int{2, 2}}, {1, []int{2, 1}, 4, []int{3, 1}},
		// Roots that are the same: of 1 times 2, and of 8 times 9 with six times the votes.
		{2, []int{1, 6}, 9, []int{1, 8}}, {2, []int{1, 6}, 10, []int{2, 8}}, {2, []int{6, 1}, 10, []int{9, 1}},
		// Who has no votes has no seat, even where it would be divided by 0.
		{1, []int{0, 5, 0}, 4, []int{0, 4, 0}}, {2, []int{0, 5, 0}, 4, []int{0, 4, 0}}, {3, []int{0, 1}, 200, []int{0, 200}}, {4, []int{0, 1}, 200, []int{0, 200}},
		{1, []int{7}, 0, []int{0}}, {2, []int{7, 8}, 0, []int{0, 0}}, {3, []int{7}, 9, []int{9}},
		// Squares of great numbers.
		{2, []int{api.MaxVotes, 1}, 200, []int{199, 1}}, {2, []int{999999, api.MaxVotes}, 199, []int{99, 100}}, {2, []int{999999, api.MaxVotes}, 200, []int{100, 100}},
	}
	for _, c := range cases {
		l, e := seats.Divide(c.rule, c.votes, c.house)
		is(t, fmt.Sprint("Divide ", c.rule, c.votes, c.house), l, e, c.want)
	}
}

// right is a party's right to the seat that it has when it has s: its votes over what the rule says, squared.
type right struct {
	party, votes int
	square       *big.Rat // nil: divided by 0
}

func rightOf(rule, party, votes, s int) right {
	by := big.NewRat(1, 1)
	switch rule {
	case 1:
		by.SetInt64(int64(s * s))
	case 2:
		by.SetInt64(int64(s * (s + 1)))
	case 3:
		by.SetFrac64(int64((2*s+1)*(2*s+1)), 4)
	case 4:
		by.SetInt64(int64((s + 1) * (s + 1)))
	}
	if by.Sign() == 0 {
		return right{party, votes, nil}
	}
	up := new(big.Rat).SetInt64(int64(votes))
	return right{party, votes, up.Mul(up, up).Quo(up, by)}
}

// before sorts rights: the greatest first, of several that of the first party.
func before(a, b right) int {
	switch {
	case a.square == nil && b.square == nil && a.votes != b.votes:
		return b.votes - a.votes
	case a.square == nil && b.square != nil:
		return -1
	case a.square != nil && b.square == nil:
		return 1
	case a.square != nil && b.square.Cmp(a.square) != 0:
		return b.square.Cmp(a.square)
	}
	return a.party - b.party
}

// allAtOnce sorts the rights to all seats that a party might get, and gives the house to the first ones.
func allAtOnce(rule int, votes []int, house int) []int {
	var all []right
	for p, v := range votes {
		for s := range house {
			if v > 0 {
				all = append(all, rightOf(rule, p, v, s))
			}
		}
	}
	slices.SortFunc(all, before)
	l := make([]int, len(votes))
	for _, r := range all[:house] {
		l[r.party]++
	}
	return l
}

func TestP2DivideAsAllAtOnce(t *testing.T) {
	drawn(func(votes []int, house int) {
		for rule := 1; rule <= 4; rule++ {
			if got, want := divide(t, rule, votes, house), allAtOnce(rule, votes, house); !slices.Equal(got, want) {
				t.Errorf("Divide(%d, %v, %d): %v, want %v", rule, votes, house, got, want)
			}
		}
	})
}

// A house that grows takes from nobody.
func TestP2DivideGrows(t *testing.T) {
	d := die(3)
	for i := range 12 {
		votes := d.votes(2+i%5, []int{4, 50, api.MaxVotes}[i%3])
		for rule := 1; rule <= 4; rule++ {
			old := make([]int, len(votes))
			for house := range api.MaxHouse + 1 {
				l := divide(t, rule, votes, house)
				for p := range l {
					if l[p] < old[p] {
						t.Fatalf("Divide(%d, %v, %d): %v, with one seat less %v", rule, votes, house, l, old)
					}
				}
				old = l
			}
		}
	}
}

// Rule 1 gives nobody more than its quota (but for a part of a seat), rule 4 nobody less.
func TestP2DivideAndQuota(t *testing.T) {
	less, more := 0, 0
	drawn(func(votes []int, house int) {
		all := sum(votes)
		for p, s := range divide(t, 1, votes, house) {
			if (s-1)*all >= votes[p]*house && s > 0 {
				t.Errorf("Divide(1, %v, %d): the party %d has %d", votes, house, p, s)
			}
			if s*all <= votes[p]*house-all {
				less++
			}
		}
		for p, s := range divide(t, 4, votes, house) {
			if (s+1)*all <= votes[p]*house {
				t.Errorf("Divide(4, %v, %d): the party %d has %d", votes, house, p, s)
			}
			if s*all >= votes[p]*house+all {
				more++
			}
		}
	})
	if less == 0 || more == 0 {
		t.Errorf("no house breaks the quota: %d by rule 1, %d by rule 4", less, more)
	}
}

func TestP3Quota(t *testing.T) {
	cases := []struct {
		votes []int
		house int
		want  []api.Q
	}{
		{[]int{340, 280, 160, 60, 15}, 7, []api.Q{"476/171", "392/171", "224/171", "28/57", "7/57"}},
		{[]int{3, 0, 1}, 8, []api.Q{"6", "0", "2"}}, {[]int{3, 1}, 0, []api.Q{"0", "0"}}, {[]int{7}, 9, []api.Q{"9"}},
		{[]int{api.MaxVotes, 1}, 200, []api.Q{"200000000/1000001", "200/1000001"}},
		{slices.Repeat([]int{api.MaxVotes}, api.MaxParties), 199, slices.Repeat([]api.Q{"199/8"}, api.MaxParties)},
	}
	for _, c := range cases {
		q, e := seats.Quota(c.votes, c.house)
		is(t, fmt.Sprint("Quota ", c.votes, c.house), q, e, c.want)
	}
}

func TestP3QuotaAsRats(t *testing.T) {
	drawn(func(votes []int, house int) {
		var want []string
		for _, v := range votes {
			want = append(want, big.NewRat(int64(v*house), int64(sum(votes))).RatString())
		}
		q, e := seats.Quota(votes, house)
		if e != api.OK || fmt.Sprint(q) != fmt.Sprint(want) {
			t.Errorf("Quota(%v, %d): %v, error %d; want %v", votes, house, q, e, want)
		}
	})
}

func TestP3Hamilton(t *testing.T) {
	cases := []struct {
		votes []int
		house int
		want  []int
	}{
		{[]int{340, 280, 160, 60, 15}, 7, []int{3, 2, 1, 1, 0}},
		{[]int{6, 6, 2}, 10, []int{4, 4, 2}}, {[]int{6, 6, 2}, 11, []int{5, 5, 1}},
		// Of several the first; each has at most one of the seats that are left.
		{[]int{1, 1, 1}, 1, []int{1, 0, 0}}, {[]int{1, 1, 1}, 2, []int{1, 1, 0}}, {[]int{1, 1, 1}, 5, []int{2, 2, 1}}, {[]int{1, 1}, 3, []int{2, 1}}, {[]int{1, 9, 1, 9}, 2, []int{0, 1, 0, 1}},
		{[]int{47, 47, 2, 2, 2}, 5, []int{3, 2, 0, 0, 0}}, {[]int{28, 28, 28, 16}, 3, []int{1, 1, 1, 0}},
		{[]int{0, 3, 0, 1}, 8, []int{0, 6, 0, 2}}, {[]int{0, 0, 1}, 200, []int{0, 0, 200}}, {[]int{7, 8}, 0, []int{0, 0}}, {[]int{7}, 200, []int{200}},
		{slices.Repeat([]int{api.MaxVotes}, api.MaxParties), 199, []int{25, 25, 25, 25, 25, 25, 25, 24}},
	}
	for _, c := range cases {
		l, e := seats.Hamilton(c.votes, c.house)
		is(t, fmt.Sprint("Hamilton ", c.votes, c.house), l, e, c.want)
	}
}

// byCuts sorts the parties by what was cut off, and gives what is left to the first ones.
func byCuts(votes []int, house int) []int {
	all, left := big.NewInt(int64(sum(votes))), house
	l, cuts, order := make([]int, len(votes)), make([]*big.Int, len(votes)), make([]int, len(votes))
	for p, v := range votes {
		whole, cut := new(big.Int).DivMod(big.NewInt(int64(v*house)), all, new(big.Int))
		l[p], cuts[p], order[p] = int(whole.Int64()), cut, p
		left -= l[p]
	}
	slices.SortStableFunc(order, func(a, b int) int { return cuts[b].Cmp(cuts[a]) })
	for _, p := range order[:left] {
		l[p]++
	}
	return l
}

// It keeps to the quota: each has it cut off, or a seat more where something was cut off.
func TestP3HamiltonByCuts(t *testing.T) {
	drawn(func(votes []int, house int) {
		got, want := hamilton(t, votes, house), byCuts(votes, house)
		if !slices.Equal(got, want) {
			t.Errorf("Hamilton(%v, %d): %v, want %v", votes, house, got, want)
		}
		for p, s := range got {
			if apart := s*sum(votes) - votes[p]*house; apart <= -sum(votes) || apart >= sum(votes) {
				t.Errorf("Hamilton(%v, %d): %v is a seat off the quota of the party %d", votes, house, got, p)
			}
		}
	})
}

func TestP3Alabama(t *testing.T) {
	cases := []struct {
		votes []int
		house int
		want  bool
	}{
		{[]int{6, 6, 2}, 10, true}, {[]int{6, 6, 2}, 9, false}, {[]int{6, 6, 2}, 11, false}, {[]int{2, 6, 6}, 10, true}, {[]int{6, 2, 6}, 10, true},
		{[]int{5, 3}, 4, false}, {[]int{1}, 0, false}, {[]int{1}, api.MaxHouse - 1, false}, {[]int{1, 1, 1}, api.MaxHouse - 1, false},
	}
	for _, c := range cases {
		b, e := seats.Alabama(c.votes, c.house)
		is(t, fmt.Sprint("Alabama ", c.votes, c.house), b, e, c.want)
	}
}

// The house with a seat more is too great, where this one is as great as it may be.
func TestP3AlabamaOfTheGreatestHouse(t *testing.T) {
	for _, votes := range [][]int{{1}, {6, 6, 2}, {0, 1}} {
		if b, e := seats.Alabama(votes, api.MaxHouse); b || e != api.ErrLimit {
			t.Errorf("Alabama(%v, %d): %v, error %d", votes, api.MaxHouse, b, e)
		}
	}
}

// Keeping to the quota Hamilton takes from some; never where there are only two.
func TestP3AlabamaAsHamiltonSays(t *testing.T) {
	found := 0
	drawn(func(votes []int, house int) {
		if house == api.MaxHouse {
			return
		}
		now, then, want := byCuts(votes, house), byCuts(votes, house+1), false
		for p := range votes {
			want = want || then[p] < now[p]
		}
		b, e := seats.Alabama(votes, house)
		is(t, fmt.Sprint("Alabama ", votes, house), b, e, want)
		if b {
			found++
		}
		if b && len(votes) < 3 {
			t.Errorf("Alabama(%v, %d) with two parties", votes, house)
		}
	})
	if found < 10 {
		t.Errorf("only %d that take from some", found)
	}
}

// all that is answered, as a text.
func answers(votes []int, house int) string {
	s := fmt.Sprint(seats.May(votes, house))
	for rule := range 6 {
		l, e := seats.Divide(rule, votes, house)
		s += fmt.Sprint(l, e)
	}
	q, e := seats.Quota(votes, house)
	h, f := seats.Hamilton(votes, house)
	a, g := seats.Alabama(votes, house)
	return s + fmt.Sprint(q, e, h, f, a, g)
}

func TestX1Junk(t *testing.T) {
	d := die(1)
	odd := []int{0, 1, -1, 2, 7, api.MaxVotes, api.MaxVotes + 1, api.MaxHouse, api.MaxHouse + 1, math.MaxInt, math.MinInt}
	for range 3000 {
		var votes []int
		for range d.n(api.MaxParties + 3) {
			votes = append(votes, odd[d.n(len(odd))])
		}
		house := odd[d.n(len(odd))]
		e := seats.May(votes, house)
		for name, said := range calls(votes, house) {
			if e != api.OK && (said.e != e || !said.empty) {
				t.Errorf("%s(%v, %d): error %d, nothing else: %v; want %d", name, votes, house, said.e, said.empty, e)
			}
		}
	}
}

func TestX2NothingIsChanged(t *testing.T) {
	drawn(func(votes []int, house int) {
		old := slices.Clone(votes)
		first := answers(votes, house)
		if !slices.Equal(old, votes) {
			t.Fatalf("the votes %v have become %v", old, votes)
		}
		// With room behind the votes nothing is written there, either.
		longer := append(slices.Clone(votes), -7)
		if second := answers(longer[:len(votes)], house); second != first || longer[len(votes)] != -7 {
			t.Fatalf("%v %d: %s, asked again %s", votes, house, first, second)
		}
	})
}

func TestX2FreshAnswers(t *testing.T) {
	votes := []int{340, 280, 160, 60, 15}
	want := answers(votes, 7)
	for rule := 1; rule <= 4; rule++ {
		clear(divide(t, rule, votes, 7))
	}
	clear(hamilton(t, votes, 7))
	q, _ := seats.Quota(votes, 7)
	clear(q)
	if got := answers(votes, 7); got != want || votes[0] != 340 {
		t.Errorf("%s, asked again %s", want, got)
	}
}
