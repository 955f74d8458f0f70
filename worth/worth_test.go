package worth_test

import (
	"fmt"
	"math"
	"math/big"
	"math/bits"
	"slices"
	"testing"

	"agora/api"
	"agora/exact"
	"agora/worth"
)

// die draws numbers that look drawn, the same each time.
type die uint64

func (d *die) n(most int) int {
	*d = *d*6364136223846793005 + 1442695040888963407
	return int(uint64(*d>>33) % uint64(most))
}

// worths of all sets of so many players, from least to most.
func (d *die) worths(players, least, most int) []int {
	v := make([]int, 1<<players)
	for set := 1; set < len(v); set++ {
		v[set] = least + d.n(most-least+1)
	}
	return v
}

// convex worths: of each set of at least two something is added to all sets with it.
func (d *die) convex(players, most int) []int {
	v := make([]int, 1<<players)
	for s := range v {
		adds := d.n(most)
		if bits.OnesCount(uint(s)) == 1 {
			adds -= most / 2
		}
		for t := range v {
			if s != 0 && s&t == s {
				v[t] += adds
			}
		}
	}
	return v
}

// drawn calls f with worths of all kinds: with a core and without, below 0, with many ties, the greatest.
func drawn(f func(players int, v []int)) {
	d := die(10)
	for i := range 500 {
		n := 1 + i%api.MaxPlayers
		switch i % 6 {
		case 0:
			f(n, d.worths(n, 0, 12))
		case 1:
			v := d.worths(n, 0, 9)
			v[len(v)-1] += d.n(30)
			f(n, v)
		case 2:
			f(n, d.worths(n, -3, 2))
		case 3:
			f(n, d.worths(n, -api.MaxWorth, api.MaxWorth))
		case 4:
			f(n, d.worths(n, 0, 1))
		case 5:
			f(n, d.convex(n, 8))
		}
	}
	f(5, append(slices.Repeat([]int{0}, 1), slices.Repeat([]int{api.MaxWorth}, 31)...))
	f(5, append(slices.Repeat([]int{0}, 1), slices.Repeat([]int{-api.MaxWorth}, 31)...))
}

// texts are fractions as texts, in lowest terms.
func texts(l []*big.Rat) []api.Q {
	var all []api.Q
	for _, r := range l {
		all = append(all, api.Q(r.RatString()))
	}
	return all
}

func rat(q api.Q) *big.Rat {
	r, ok := new(big.Rat).SetString(string(exact.Norm(q)))
	if !ok {
		panic(q)
	}
	return r
}

func whole(n int) *big.Rat { return big.NewRat(int64(n), 1) }

// is fails, unless an answer is OK and as it should be.
func is[T any](t *testing.T, what string, got T, e api.Errno, want T) {
	t.Helper()
	if e != api.OK || fmt.Sprint(got) != fmt.Sprint(want) {
		t.Errorf("%s: %v, error %d; want %v", what, got, e, want)
	}
}

func shapley(t *testing.T, v []int) []api.Q {
	t.Helper()
	l, e := worth.Shapley(v)
	if e != api.OK || 1<<len(l) != len(v) {
		t.Fatalf("Shapley(%v): %v, error %d", v, l, e)
	}
	return l
}

// said is what a call answers, as a text, and its error.
type said struct {
	text string
	e    api.Errno
}

// calls are all of them but May.
func calls(v []int, x, weights []api.Q) map[string]said {
	a, e := worth.Shapley(v)
	b, f := worth.Banzhaf(v)
	ok, set, g := worth.Core(v, x)
	c, h := worth.Convex(v)
	share, w, i := worth.Find(v)
	d, j := worth.Balanced(v, weights)
	return map[string]said{
		"Shapley": {fmt.Sprint(a), e}, "Banzhaf": {fmt.Sprint(b), f}, "Core": {fmt.Sprint(ok, set), g},
		"Convex": {fmt.Sprint(c), h}, "Find": {fmt.Sprint(share, w), i}, "Balanced": {fmt.Sprint(d), j},
	}
}

// nothing is what all calls answer with an error.
func nothing() map[string]string {
	return map[string]string{"Shapley": "[]", "Banzhaf": "[]", "Core": "false 0", "Convex": "false", "Find": "[] []", "Balanced": "false"}
}

func TestG1May(t *testing.T) {
	for players := 1; players <= api.MaxPlayers; players++ {
		v := slices.Repeat([]int{api.MaxWorth, -api.MaxWorth}, 1<<(players-1))
		v[0] = 0
		n, e := worth.May(v)
		is(t, fmt.Sprint("May ", v), n, e, players)
	}
	n, e := worth.May([]int{0, 0})
	is(t, "May of noughts", n, e, 1)
}

func TestG1AllCallsSayItFirst(t *testing.T) {
	long := make([]int, 64)
	bad := []struct {
		v    []int
		want api.Errno
	}{
		{nil, api.ErrCount}, {[]int{}, api.ErrCount}, {[]int{0}, api.ErrCount}, {[]int{5}, api.ErrCount}, {[]int{0, 1, 2}, api.ErrCount}, {make([]int, 5), api.ErrCount}, {make([]int, 6), api.ErrCount}, {make([]int, 7), api.ErrCount},
		{make([]int, 31), api.ErrCount}, {make([]int, 33), api.ErrCount}, {long, api.ErrCount}, {make([]int, 48), api.ErrCount}, {[]int{1, 2000, 0}, api.ErrCount},
		{[]int{0, api.MaxWorth + 1}, api.ErrValue}, {[]int{0, -api.MaxWorth - 1}, api.ErrValue}, {[]int{1, 0, 0, -api.MaxWorth - 1}, api.ErrValue}, {[]int{api.MaxWorth + 1, 0}, api.ErrValue}, {[]int{math.MinInt, math.MaxInt}, api.ErrValue},
		{[]int{1, 0}, api.ErrZero}, {[]int{-1, 0}, api.ErrZero}, {[]int{api.MaxWorth, 1, 2, 3}, api.ErrZero},
	}
	for _, b := range bad {
		if n, e := worth.May(b.v); n != 0 || e != b.want {
			t.Errorf("May(%v): %d, error %d, want %d", b.v, n, e, b.want)
		}
		for _, many := range []int{0, 1, 2, 3, 32} {
			q := slices.Repeat([]api.Q{"1"}, many)
			for name, got := range calls(b.v, q, q) {
				if got.text != nothing()[name] || got.e != b.want {
					t.Errorf("%s(%v, .. %d): %v, want %d", name, b.v, many, got, b.want)
				}
			}
		}
	}
}

func TestG2Shapley(t *testing.T) {
	for _, c := range []struct {
		v    []int
		want []api.Q
	}{
		{[]int{0, 0, 0, 6, 0, 6, 6, 9}, []api.Q{"3", "3", "3"}}, {[]int{0, 7}, []api.Q{"7"}}, {[]int{0, -7}, []api.Q{"-7"}},
		{[]int{0, 1, 2, 10}, []api.Q{"9/2", "11/2"}}, {[]int{0, 3, -1, 1}, []api.Q{"5/2", "-3/2"}},
		{[]int{0, 0, 0, 1, 0, 1, 0, 1}, []api.Q{"2/3", "1/6", "1/6"}},                                   // the first one with another one wins
		{[]int{0, 80, 56, 80, 70, 85, 72, 90}, []api.Q{"235/6", "62/3", "181/6"}},                       // who rides along
		{[]int{0, 0, 0, 0, 0, 0, 0, 1, 0, 1, 0, 1, 0, 1, 0, 1}, []api.Q{"7/12", "1/12", "1/12", "1/4"}}, // the first one, with the last one or both others
	} {
		l, e := worth.Shapley(c.v)
		is(t, fmt.Sprint("Shapley ", c.v), l, e, c.want)
	}
}

// byOrders lets the players come in all orders, and tells what each one adds, on average.
func byOrders(players int, v []int) []api.Q {
	sums, orders := make([]*big.Rat, players), 0
	for p := range sums {
		sums[p] = new(big.Rat)
	}
	var come func(there int, adds []int)
	come = func(there int, adds []int) {
		if there == len(v)-1 {
			orders++
			for p, a := range adds {
				sums[p].Add(sums[p], whole(a))
			}
			return
		}
		for p := range players {
			if then := there | 1<<p; then != there {
				now := slices.Clone(adds)
				now[p] = v[then] - v[there]
				come(then, now)
			}
		}
	}
	come(0, make([]int, players))
	for _, s := range sums {
		s.Quo(s, whole(orders))
	}
	return texts(sums)
}

func TestG2ShapleyByOrders(t *testing.T) {
	drawn(func(players int, v []int) {
		l, e := worth.Shapley(v)
		is(t, fmt.Sprint("Shapley ", v), l, e, byOrders(players, v))
	})
}

// All together get what they are worth; who always adds 0 gets 0; who add the same get the same; sums of worths give sums.
func TestG2ShapleyLaws(t *testing.T) {
	d := die(11)
	drawn(func(players int, v []int) {
		l := shapley(t, v)
		if all := exact.Sum(l); all != exact.Of(v[len(v)-1]) {
			t.Errorf("Shapley(%v): %v, together %v", v, l, all)
		}
		for i := range v {
			v[i] /= 2
		}
		other := d.worths(players, -9, 9)
		both := slices.Clone(v)
		for i := range both {
			both[i] += other[i]
		}
		first, second := shapley(t, v), shapley(t, other)
		for p, q := range shapley(t, both) {
			if q != exact.Add(first[p], second[p]) {
				t.Errorf("Shapley of the sum of %v and %v: the player %d gets %v", v, other, p, q)
			}
		}
		idle, twin := d.n(players), d.n(players)
		for set := range v {
			v[set] = both[set&^(1<<idle)]
		}
		if q := shapley(t, v)[idle]; q != "0" {
			t.Errorf("Shapley(%v): the player %d gets %v", v, idle, q)
		}
		// Worths that do not tell twin and idle apart.
		for set := range v {
			if set>>twin&1 < set>>idle&1 {
				v[set] = v[set^1<<idle^1<<twin]
			}
		}
		if l := shapley(t, v); l[idle] != l[twin] {
			t.Errorf("Shapley(%v): the players %d and %d get %v", v, idle, twin, l)
		}
	})
}

// Where worths are convex Shapley's share is in the core.
func TestG2ShapleyOfConvex(t *testing.T) {
	d := die(12)
	for i := range 150 {
		v := d.convex(1+i%api.MaxPlayers, 2+d.n(12))
		c, e := worth.Convex(v)
		is(t, fmt.Sprint("Convex ", v), c, e, true)
		ok, _, e := worth.Core(v, shapley(t, v))
		is(t, fmt.Sprint("Core of Shapley ", v), ok, e, true)
	}
}

func TestG2Banzhaf(t *testing.T) {
	for _, c := range []struct {
		v    []int
		want []api.Q
	}{
		{[]int{0, 7}, []api.Q{"7"}}, {[]int{0, 1, 2, 10}, []api.Q{"9/2", "11/2"}}, {[]int{0, 0, 0, 1, 0, 1, 0, 1}, []api.Q{"3/4", "1/4", "1/4"}},
		{[]int{0, 0, 0, 6, 0, 6, 6, 9}, []api.Q{"15/4", "15/4", "15/4"}}, {[]int{0, 0, 0, 0, 0, 0, 0, 1}, []api.Q{"1/4", "1/4", "1/4"}}, {[]int{0, -3, 2, 1}, []api.Q{"-2", "3"}},
		{append(make([]int, 31), 1), slices.Repeat([]api.Q{"1/16"}, 5)},
	} {
		l, e := worth.Banzhaf(c.v)
		is(t, fmt.Sprint("Banzhaf ", c.v), l, e, c.want)
	}
	drawn(func(players int, v []int) {
		var want []*big.Rat
		for p := range players {
			with, without := 0, 0
			for set, w := range v {
				if set>>p&1 == 1 {
					with += w
				} else {
					without += w
				}
			}
			want = append(want, big.NewRat(int64(with-without), int64(len(v)/2)))
		}
		l, e := worth.Banzhaf(v)
		is(t, fmt.Sprint("Banzhaf ", v), l, e, texts(want))
	})
}

// growing: no player adds less to a set for another one that is there.
func growing(players int, v []int) bool {
	for set := range v {
		for p := range players {
			for q := range players {
				if one, two := set|1<<p, set|1<<q; one != set && two != set && p != q && v[one|two]-v[two] < v[one]-v[set] {
					return false
				}
			}
		}
	}
	return true
}

func TestG2Convex(t *testing.T) {
	for _, c := range []struct {
		v    []int
		want bool
	}{
		{[]int{0, 5}, true}, {[]int{0, -5}, true}, {[]int{0, 1, 2, 3}, true}, {[]int{0, 1, 2, 4}, true}, {[]int{0, 1, 2, 2}, false}, {[]int{0, -1, -2, -3}, true}, {[]int{0, -1, -2, -4}, false},
		{[]int{0, 0, 0, 6, 0, 6, 6, 9}, false}, {[]int{0, 0, 0, 6, 0, 6, 6, 12}, true}, {[]int{0, 0, 0, 6, 0, 6, 6, 11}, false}, {make([]int, 32), true},
	} {
		ok, e := worth.Convex(c.v)
		is(t, fmt.Sprint("Convex ", c.v), ok, e, c.want)
	}
	count := map[bool]int{}
	drawn(func(players int, v []int) {
		want := growing(players, v)
		ok, e := worth.Convex(v)
		is(t, fmt.Sprint("Convex ", v), ok, e, want)
		count[ok]++
		// With one less for all together it may be so no more.
		if v[len(v)-1]--; v[len(v)-1] >= -api.MaxWorth {
			ok, e := worth.Convex(v)
			is(t, fmt.Sprint("Convex ", v), ok, e, growing(players, v))
		}
	})
	if min(count[true], count[false]) < 50 {
		t.Errorf("too few: %v", count)
	}
}

// blocks is the first set that gets less than it is worth, or all together, if they get more: 0, if there is none.
func blocks(v []int, x []api.Q) int {
	for set := range v {
		sum := new(big.Rat)
		for p, q := range x {
			if set>>p&1 == 1 {
				sum.Add(sum, rat(q))
			}
		}
		if sign := sum.Cmp(whole(v[set])); sign < 0 || sign > 0 && set == len(v)-1 {
			return set
		}
	}
	return 0
}

func TestG3Core(t *testing.T) {
	three := []int{0, 0, 0, 6, 0, 6, 6, 9}
	for _, c := range []struct {
		v    []int
		x    []api.Q
		want int
	}{
		{three, []api.Q{"3", "3", "3"}, 0}, {three, []api.Q{"6/2", "003", "3/1"}, 0}, {three, []api.Q{"3", "3", "2"}, 5}, {three, []api.Q{"3", "3", "4"}, 7}, {three, []api.Q{"4", "3", "2"}, 6}, {three, []api.Q{"2", "3", "4"}, 3},
		{three, []api.Q{"-1", "8", "2"}, 1}, {three, []api.Q{"-1", "-1", "-1"}, 1}, {three, []api.Q{"10", "-1/9", "0"}, 2}, {three, []api.Q{"7/2", "7/2", "7/3"}, 5}, {three, []api.Q{"3", "3", "3000001/1000000"}, 7}, {three, []api.Q{"x", "6", "3"}, 5}, {three, []api.Q{"9", "9", "1/0"}, 7},
		{[]int{0, 4}, []api.Q{"4"}, 0}, {[]int{0, 4}, []api.Q{"3"}, 1}, {[]int{0, 4}, []api.Q{"5"}, 1}, {[]int{0, -4}, []api.Q{"-4"}, 0}, {[]int{0, -4}, []api.Q{"0"}, 1},
		{[]int{0, 1, 1, 1}, []api.Q{"1", "1"}, 3}, {[]int{0, 1, 1, 1}, []api.Q{"1", "0"}, 2}, {[]int{0, 1, 1, 1}, []api.Q{"1/2", "1/2"}, 1}, {[]int{0, -1, -1, -2}, []api.Q{"-1", "-1"}, 0}, {[]int{0, -1, -1, -1}, []api.Q{"-1/3", "-2/3"}, 0},
	} {
		ok, set, e := worth.Core(c.v, c.x)
		is(t, fmt.Sprint("Core ", c.v, c.x), fmt.Sprint(ok, set), e, fmt.Sprint(c.want == 0, c.want))
	}
}

func TestG3CoreWrongCount(t *testing.T) {
	for players := 1; players <= api.MaxPlayers; players++ {
		v := make([]int, 1<<players)
		for many := range 8 {
			ok, set, e := worth.Core(v, slices.Repeat([]api.Q{"0"}, many))
			if want := many == players; ok != want || set != 0 || want != (e == api.OK) || !want && e != api.ErrCount {
				t.Errorf("Core of %d players, %d numbers: %v, %d, error %d", players, many, ok, set, e)
			}
		}
	}
}

func TestG3CoreByRats(t *testing.T) {
	d := die(13)
	drawn(func(players int, v []int) {
		for i := range 6 {
			x := shapley(t, v)
			if i > 0 {
				x[d.n(players)] = exact.Of(d.n(20) - 5)
			}
			if i > 3 {
				x[0] = exact.Sub(exact.Of(v[len(v)-1]), exact.Sum(x[1:]))
			}
			want := blocks(v, x)
			ok, set, e := worth.Core(v, x)
			is(t, fmt.Sprint("Core ", v, x), fmt.Sprint(ok, set), e, fmt.Sprint(want == 0, want))
		}
	})
}

// balanced is what G3 says, once more by other means.
func balanced(players int, v []int, weights []api.Q) bool {
	sums, wins := make([]big.Rat, players), whole(-v[len(v)-1])
	for set, q := range weights {
		w := rat(q)
		if w.Sign() < 0 {
			return false
		}
		wins.Add(wins, new(big.Rat).Mul(w, whole(v[set])))
		for p := range sums {
			if set>>p&1 == 1 {
				sums[p].Add(&sums[p], w)
			}
		}
	}
	for p := range sums {
		if sums[p].Cmp(whole(1)) != 0 {
			return false
		}
	}
	return wins.Sign() > 0
}

func TestG3Balanced(t *testing.T) {
	half, three := api.Q("1/2"), []int{0, 0, 0, 6, 0, 6, 6, 8}
	for _, c := range []struct {
		v    []int
		w    []api.Q
		want bool
	}{
		{three, []api.Q{"0", "0", "0", half, "0", half, half, "0"}, true}, {three, []api.Q{"7", "0", "0", "2/4", "0", half, half, "0"}, true}, {three, []api.Q{"x", "-", "1/0", half, "", "01/2", half, ""}, true},
		{three, []api.Q{"-1", "0", "0", half, "0", half, half, "0"}, false}, {three, []api.Q{"0", "0", "0", half, "0", half, half, "1"}, false}, {three, []api.Q{"0", half, "0", half, "0", half, half, "0"}, false},
		{three, []api.Q{"0", "0", "0", "1/4", "0", "1/4", "1/4", half}, true}, {three, []api.Q{"0", "0", "0", "0", "0", "0", "0", "1"}, false}, {three, []api.Q{"0", "1", "1", "0", "1", "0", "0", "0"}, false},
		{three, []api.Q{"0", "-1", "-1", "1", "-1", "1", "1", "0"}, false}, {three, []api.Q{"0", "0", "0", "1", "1", "0", "0", "0"}, false}, {three, []api.Q{"0", "0", "0", "1", "0", "1", "1", "-1"}, false},
		{three, []api.Q{"0", "0", "0", "1", "0", "1", "1", "0"}, false}, {three, []api.Q{"0", "0", "0", "1/4", "0", "1/4", "1/4", "0"}, false},
		{[]int{0, 0, 0, 6, 0, 6, 6, 9}, []api.Q{"0", "0", "0", half, "0", half, half, "0"}, false}, // just as much
		{[]int{0, 1, 1, 1}, []api.Q{"0", "1", "1", "0"}, true}, {[]int{0, 1, 1, 2}, []api.Q{"0", "1", "1", "0"}, false}, {[]int{0, 1, 1, 1}, []api.Q{"0", half, half, half}, true}, {[]int{0, 1, 1, 1}, []api.Q{"0", "1", half, "0"}, false}, {[]int{0, 1, 1, 1}, []api.Q{"0", half, "1", "0"}, false},
		{[]int{0, 5}, []api.Q{"0", "1"}, false}, {[]int{0, -5}, []api.Q{"0", "1"}, false}, {[]int{0, 5}, []api.Q{"0", "2"}, false},
	} {
		ok, e := worth.Balanced(c.v, c.w)
		is(t, fmt.Sprint("Balanced ", c.v, c.w), ok, e, c.want)
	}
}

func TestG3BalancedWrongCount(t *testing.T) {
	for players := 1; players <= api.MaxPlayers; players++ {
		for many := range 40 {
			ok, e := worth.Balanced(make([]int, 1<<players), slices.Repeat([]api.Q{"0"}, many))
			if right := many == 1<<players; ok || right != (e == api.OK) || !right && e != api.ErrCount {
				t.Errorf("Balanced of %d players, %d weights: %v, error %d", players, many, ok, e)
			}
		}
	}
}

func TestG3BalancedByRats(t *testing.T) {
	d := die(14)
	count := map[bool]int{}
	drawn(func(players int, v []int) {
		_, w, _ := worth.Find(v)
		if len(w) == 0 {
			w = slices.Repeat([]api.Q{"0"}, len(v))
			for p := range players {
				w[1<<p] = "1"
			}
		}
		for i := range 6 {
			if i > 0 {
				set, less := d.n(len(w)), exact.Of(d.n(3)-1)
				w[set] = exact.Sub(w[set], less)
				w[len(w)-1] = exact.Add(w[len(w)-1], less)
			}
			ok, e := worth.Balanced(v, w)
			is(t, fmt.Sprint("Balanced ", v, w), ok, e, balanced(players, v, w))
			count[ok]++
		}
	})
	if min(count[true], count[false]) < 50 {
		t.Errorf("too few: %v", count)
	}
}

func lowest(l []api.Q) bool {
	return !slices.ContainsFunc(l, func(q api.Q) bool { return exact.Norm(q) != q })
}

// find fails, unless there is a share in the core, or weights that show that there is none; and tells which.
func find(t *testing.T, players int, v []int) bool {
	t.Helper()
	share, w, e := worth.Find(v)
	if e != api.OK || !lowest(share) || !lowest(w) {
		t.Fatalf("Find(%v): %v, %v, error %d", v, share, w, e)
	}
	there := len(share) == players && len(w) == 0 && blocks(v, share) == 0
	empty := len(share) == 0 && len(w) == len(v) && w[0] == "0" && balanced(players, v, w)
	if there == empty {
		t.Fatalf("Find(%v): %v, %v", v, share, w)
	}
	ok, _, f := worth.Core(v, share)
	shows, g := worth.Balanced(v, w)
	if ok != there || shows != empty || (f == api.OK) != there || (g == api.OK) != empty {
		t.Errorf("Find(%v): Core %v, %d, Balanced %v, %d", v, ok, f, shows, g)
	}
	return there
}

func TestG3Find(t *testing.T) {
	for _, c := range []struct {
		v    []int
		want bool
	}{
		{[]int{0, 0, 0, 6, 0, 6, 6, 9}, true}, {[]int{0, 0, 0, 6, 0, 6, 6, 8}, false}, {[]int{0, 5}, true}, {[]int{0, -5}, true}, {[]int{0, 0}, true},
		{[]int{0, 1, 1, 2}, true}, {[]int{0, 1, 1, 1}, false}, {[]int{0, -1, -1, -2}, true}, {[]int{0, -1, -1, -3}, false}, {[]int{0, -3, 5, 4}, true}, {[]int{0, -3, 5, 1}, false},
		{make([]int, 32), true}, {append(make([]int, 31), 1), true}, {append(make([]int, 31), -1), false}, {append(make([]int, 31), api.MaxWorth), true},
		{[]int{0, 0, 0, 1, 0, 1, 1, 1}, false}, {[]int{0, 0, 0, 1, 0, 1, 0, 1}, true}, {[]int{0, -2, 0, 3, 0, 4, 8, 7}, false}, {[]int{0, 0, 0, 5, 0, 6, 8, 9}, false},
	} {
		n, _ := worth.May(c.v)
		if there := find(t, n, c.v); there != c.want {
			t.Errorf("Find(%v): %v, want %v", c.v, there, c.want)
		}
	}
	// Where there is only one share.
	share, _, e := worth.Find([]int{0, 0, 0, 1, 0, 1, 0, 1})
	is(t, "Find", share, e, []api.Q{"1", "0", "0"})
	share, _, e = worth.Find([]int{0, 0, 0, 5, 0, 6, 7, 9})
	is(t, "Find", share, e, []api.Q{"2", "3", "4"})
}

func TestG3FindDrawn(t *testing.T) {
	count := map[bool]int{}
	drawn(func(players int, v []int) { count[find(t, players, v)]++ })
	if min(count[true], count[false]) < 100 {
		t.Errorf("too few: %v", count)
	}
}

// All worths of two players from -2 to 2, and of three from 0 to 2: there is no share just where all together are worth less than parts into which they fall, or than the three pairs by halves.
func TestG3FindAll(t *testing.T) {
	for k := range 5 * 5 * 5 {
		v := []int{0, k%5 - 2, k/5%5 - 2, k/25 - 2}
		if there := find(t, 2, v); there != (v[1]+v[2] <= v[3]) {
			t.Errorf("Find(%v): %v", v, there)
		}
	}
	for k := range 3 * 3 * 3 * 3 * 3 * 3 * 3 {
		v := make([]int, 8)
		for set := 1; set < 8; set++ {
			v[set] = k % 3
			k /= 3
		}
		want := max(v[1]+v[2]+v[4], v[1]+v[6], v[2]+v[5], v[4]+v[3]) <= v[7] && v[3]+v[5]+v[6] <= 2*v[7]
		if there := find(t, 3, v); there != want {
			t.Errorf("Find(%v): %v, want %v", v, there, want)
		}
	}
}

func TestX1Junk(t *testing.T) {
	d := die(15)
	odd, words := []int{0, 0, 0, 1, -1, api.MaxWorth, -api.MaxWorth, api.MaxWorth + 1, math.MaxInt, math.MinInt}, []api.Q{"", "-", "x", "1/0", "0", "1", "1/2", "-1", "99999999999999999999/7", "\xff"}
	some := func(n int) []api.Q {
		var l []api.Q
		for range n {
			l = append(l, words[d.n(len(words))])
		}
		return l
	}
	for range 3000 {
		v := make([]int, []int{0, 1, 2, 3, 4, 8, 16, 31, 32, 33, 64}[d.n(11)])
		for i := range v {
			if i > 0 || d.n(9) == 0 {
				v[i] = odd[d.n(6+d.n(5))]
			}
		}
		_, e := worth.May(v)
		for name, got := range calls(v, some(d.n(7)), some(len(v)-d.n(9)/8*len(v)/2)) {
			if e != api.OK && (got.e != e || got.text != nothing()[name]) || got.e != api.OK && got.text != nothing()[name] {
				t.Fatalf("%s(%v): %v, May %d", name, v, got, e)
			}
		}
	}
}

func TestX2NothingIsChanged(t *testing.T) {
	drawn(func(players int, v []int) {
		x, w := slices.Repeat([]api.Q{"2/4"}, players), slices.Repeat([]api.Q{"2/6"}, len(v))
		want := calls(v, x, w)
		old := fmt.Sprint(v, x, w)
		longer, more, most := append(slices.Clone(v), 7), append(slices.Clone(x), "7"), append(slices.Clone(w), "7")
		got := calls(longer[:len(v)], more[:len(x)], most[:len(w)])
		if fmt.Sprint(got) != fmt.Sprint(want) || fmt.Sprint(v, x, w) != old {
			t.Fatalf("%s: %v, asked again %v", old, want, got)
		}
		if longer[len(v)] != 7 || more[len(x)] != "7" || most[len(w)] != "7" {
			t.Fatalf("%s: something was written behind a list", old)
		}
	})
}

func TestX2FreshAnswers(t *testing.T) {
	for _, v := range [][]int{{0, 0, 0, 6, 0, 6, 6, 9}, {0, 0, 0, 6, 0, 6, 6, 8}} {
		want := fmt.Sprint(calls(v, nil, nil))
		clear(shapley(t, v))
		b, _ := worth.Banzhaf(v)
		clear(b)
		share, w, _ := worth.Find(v)
		clear(share)
		clear(w)
		if got := fmt.Sprint(calls(v, nil, nil)); got != want || v[3] != 6 {
			t.Errorf("%s, asked again %s", want, got)
		}
	}
}
