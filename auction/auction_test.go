package auction_test

import (
	"fmt"
	"math"
	"slices"
	"testing"

	"agora/api"
	"agora/auction"
)

// die draws numbers that look drawn, the same each time.
type die uint64

func (d *die) n(most int) int {
	*d = *d*6364136223846793005 + 1442695040888963407
	return int(uint64(*d>>33) % uint64(most))
}

func (d *die) list(n, most int) []int {
	l := make([]int, n)
	for i := range l {
		l[i] = d.n(most)
	}
	return l
}

// worth draws what sets are worth to a bidder: a set at least what each one within it is, and at most MaxBid.
func (d *die) worth(items, step int) []int {
	v := make([]int, 1<<items)
	for set := 1; set < len(v); set++ {
		for i := range items {
			v[set] = max(v[set], v[set&^(1<<i)])
		}
		v[set] = min(api.MaxBid, v[set]+d.n(step))
	}
	return v
}

func (d *die) bids(bidders, items, step int) api.Bids {
	b := api.Bids{Items: items}
	for range bidders {
		b.Worth = append(b.Worth, d.worth(items, step))
	}
	return b
}

// drawn calls f with bids of all sizes and kinds: with many ties, great ones.
func drawn(many int, f func(b api.Bids)) {
	d := die(14)
	for i := range many {
		f(d.bids(1+d.n(api.MaxBidders), d.n(api.MaxItems+1), []int{2, 3, 8, 400}[i%4]))
	}
}

// lists calls f with all lists of 1 to MaxBidders numbers below most.
func lists(most int, f func(l []int)) {
	for n := 1; n <= api.MaxBidders; n++ {
		l := make([]int, n)
		for i := 0; i >= 0; {
			f(slices.Clone(l))
			for i = n - 1; i >= 0 && l[i] == most-1; i-- {
				l[i] = 0
			}
			if i >= 0 {
				l[i]++
			}
		}
	}
}

// said is what a call answers, as a text, and its error.
type said struct {
	text string
	e    api.Errno
}

// calls are all of them that ask bids for one thing.
func calls(l, sets []int) map[string]said {
	a, p, e := auction.First(l)
	b, q, f := auction.Second(l)
	c, r, g := auction.Clock(l)
	w, pays, h := auction.Slots(l, sets)
	return map[string]said{"First": {fmt.Sprint(a, p), e}, "Second": {fmt.Sprint(b, q), f}, "Clock": {fmt.Sprint(c, r), g}, "Slots": {fmt.Sprint(w, pays), h}}
}

func TestC1AllCallsSayItFirst(t *testing.T) {
	for _, c := range []struct {
		l    []int
		want api.Errno
	}{
		{nil, api.ErrCount}, {[]int{}, api.ErrCount}, {[]int{1, 2, 3, 4, 5}, api.ErrCount}, {[]int{-1, 0, 0, 0, 0}, api.ErrCount}, {make([]int, 70000), api.ErrCount},
		{[]int{-1}, api.ErrValue}, {[]int{api.MaxBid + 1}, api.ErrValue}, {[]int{0, 5, -1}, api.ErrValue}, {[]int{api.MaxBid + 1, 0, 0, 0}, api.ErrValue}, {[]int{1, 2, 3, api.MaxBid + 1}, api.ErrValue}, {[]int{math.MinInt}, api.ErrValue}, {[]int{0, math.MaxInt}, api.ErrValue},
	} {
		for _, sets := range [][]int{{0}, {1}, nil, {-1}, make([]int, 17)} {
			for name, got := range calls(c.l, sets) {
				nothing := "0 0"
				if name == "Slots" {
					nothing = "0 []"
				}
				if got.text != nothing || got.e != c.want {
					t.Errorf("%s(%v, %v): %v, want error %d", name, c.l, sets, got, c.want)
				}
			}
		}
	}
}

func TestC1(t *testing.T) {
	for _, c := range []struct {
		l             []int
		first, second string // who wins, and pays what
	}{
		{[]int{0}, "0 0", "0 0"}, {[]int{7}, "0 7", "0 0"}, {[]int{api.MaxBid}, "0 1000", "0 0"}, {[]int{5, 9, 7}, "1 9", "1 7"}, {[]int{9, 5, 7}, "0 9", "0 7"}, {[]int{5, 7, 9}, "2 9", "2 7"}, {[]int{0, 0}, "0 0", "0 0"}, {[]int{0, 0, 1}, "2 1", "2 0"}, {[]int{1, 0, 0}, "0 1", "0 0"},
		{[]int{3, 3}, "0 3", "0 3"}, {[]int{1, 3, 3, 2}, "1 3", "1 3"}, {[]int{2, 1, 0, 2}, "0 2", "0 2"}, {[]int{1000, 999}, "0 1000", "0 999"}, {[]int{999, 1000, 1000, 1000}, "1 1000", "1 1000"}, {[]int{1000, 1000, 1000, 1000}, "0 1000", "0 1000"}, {[]int{4, 4, 5}, "2 5", "2 4"},
	} {
		got := calls(c.l, []int{0})
		for name, want := range map[string]string{"First": c.first, "Second": c.second, "Clock": c.second} {
			if got[name] != (said{want, api.OK}) {
				t.Errorf("%s(%v): %v, want %s", name, c.l, got[name], want)
			}
		}
	}
}

func TestC1OfAll(t *testing.T) {
	lists(7, func(l []int) {
		high := slices.Sorted(slices.Values(l))
		most, next := high[len(high)-1], 0
		if len(l) > 1 {
			next = high[len(high)-2]
		}
		winner := 0
		for l[winner] != most {
			winner++
		}
		got := calls(l, []int{0})
		for name, pays := range map[string]int{"First": most, "Second": next, "Clock": next} {
			if got[name] != (said{fmt.Sprint(winner, pays), api.OK}) {
				t.Fatalf("%s(%v): %v, want %d %d", name, l, got[name], winner, pays)
			}
		}
	})
}

// The clock, told again as the chapter tells it, bid by bid, price by price.
func TestC1Clock(t *testing.T) {
	d := die(5)
	for range 400 {
		l := d.list(1+d.n(api.MaxBidders), api.MaxBid+1)
		stayed, price := make([]bool, len(l)), 0
		for i := range stayed {
			stayed[i] = true
		}
		for {
			left, many := make([]bool, len(l)), 0
			for i := range l {
				if stayed[i] && l[i] > price {
					left[i] = true
					many++
				}
			}
			if many == 1 {
				stayed = left
			}
			if many <= 1 {
				break
			}
			stayed = left
			price++
		}
		if w, p, e := auction.Clock(l); w != slices.Index(stayed, true) || p != price || e != api.OK {
			t.Fatalf("Clock(%v): %d %d, error %d; want %d %d", l, w, p, e, slices.Index(stayed, true), price)
		}
	}
}

// with is a list with another number at one place.
func with(l []int, i, n int) []int {
	other := slices.Clone(l)
	other[i] = n
	return other
}

func TestC1HonestSecond(t *testing.T) {
	const most = 6
	lists(most, func(l []int) {
		for i := range l {
			gain := func(bid int) int {
				w, pays, _ := auction.Second(with(l, i, bid))
				if w != i {
					return 0
				}
				return l[i] - pays
			}
			honest := gain(l[i])
			for bid := range most + 1 {
				if gain(bid) > honest || honest < 0 {
					t.Fatalf("Second(%v): %d gains %d by %d, else %d", l, i, gain(bid), bid, honest)
				}
			}
		}
	})
}

func of(items int, worth ...[]int) api.Bids {
	return api.Bids{Items: items, Worth: worth}
}

func example() api.Bids {
	return of(2, []int{0, 5, 5, 6}, []int{0, 4, 0, 4}, []int{0, 0, 3, 7})
}

func TestC2May(t *testing.T) {
	for _, b := range []api.Bids{
		example(), of(0, []int{0}), of(0, []int{0}, []int{0}, []int{0}, []int{0}), of(1, []int{0, 0}), of(1, []int{0, api.MaxBid}), of(4, make([]int, 16)), of(2, []int{0, 3, 3, 3}), of(2, []int{0, 9, 1, 9}, []int{0, 0, 0, 1000}), of(3, []int{0, 1, 2, 2, 0, 1, 2, 2}),
	} {
		if e := auction.May(b); e != api.OK {
			t.Errorf("May(%v): error %d", b, e)
		}
	}
	drawn(400, func(b api.Bids) {
		if e := auction.May(b); e != api.OK {
			t.Fatalf("May(%v): error %d", b, e)
		}
	})
}

func TestC2MayNot(t *testing.T) {
	great := api.MaxBid + 1
	for want, l := range map[api.Errno][]api.Bids{
		api.ErrLimit: {
			of(-1, []int{0}), of(5, make([]int, 32)), of(math.MaxInt, []int{0}), of(math.MinInt, []int{0}), of(64, []int{0}), of(5), of(-1, nil), of(-1, []int{great}),
		},
		api.ErrCount: {
			of(0), of(2), {Items: 1, Worth: [][]int{}}, of(0, []int{0}, []int{0}, []int{0}, []int{0}, []int{0}), of(0, nil), of(0, []int{0, 0}), of(1, []int{0}), of(1, []int{0, 1, 1}), of(2, []int{0, 1, 1}), of(2, []int{0, 1, 1, 1, 1}), of(4, make([]int, 15)), of(0, make([]int, 70000)), {Items: 0, Worth: make([][]int, 70000)},
			of(1, []int{0, 1}, []int{0}), of(1, []int{1, 0}, []int{0, 1}, nil), of(1, []int{0, great}, []int{0, 1, 1}), of(2, []int{0, 5, 0, 0}, []int{0, 0, 0}),
		},
		api.ErrValue: {
			of(0, []int{1}), of(0, []int{-1}), of(1, []int{1, 1}), of(1, []int{0, -1}), of(1, []int{0, great}), of(1, []int{0, math.MinInt}), of(1, []int{0, math.MaxInt}), of(2, []int{0, 1, 1, great}), of(0, []int{0}, []int{0}, []int{5}), of(1, []int{2, 1}),
			of(2, []int{0, -1, 5, 4}), of(2, []int{0, 5, great, 4}), of(1, []int{0, 1}, []int{0, great}), of(1, []int{0, great}, []int{1, 0}),
			of(1, []int{0, -1}, []int{9, 0}), of(2, []int{0, 5, 0, -1}), of(2, []int{0, 1, -1, 0}, []int{0, 5, 0, 0}), of(2, []int{3, 0, 0, 0}),
		},
		api.ErrState: {
			of(2, []int{0, 5, 0, 4}), of(2, []int{0, 0, 5, 4}), of(2, []int{0, 1, 1, 0}), of(2, []int{0, 1, 1, 1}, []int{0, 2, 1, 1}), of(3, []int{0, 1, 2, 2, 3, 3, 3, 2}), of(3, []int{0, 1, 2, 2, 3, 3, 2, 3}), of(3, []int{0, 0, 0, 0, 1, 1, 1, 0}),
			of(3, []int{0, 5, 0, 4, great, 0, 0, 0}), of(2, []int{0, 5, 0, 4}, []int{0, great, 0, 0}), // the first set's, and the first bidder's, ahead of others
		},
	} {
		for _, b := range l {
			if e := auction.May(b); e != want {
				t.Errorf("May(%v): error %d, want %d", b, e, want)
			}
			if s, e := auction.Share(b); e != want || len(s.Sets)+len(s.Pays) != 0 {
				t.Errorf("Share(%v): %v, error %d, want %d", b, s, e, want)
			}
		}
	}
}

// A set is held against each one with a thing less, of whichever thing.
func TestC2MayOfDrawn(t *testing.T) {
	d := die(9)
	many := map[api.Errno]int{}
	for range 3000 {
		items := 1 + d.n(api.MaxItems)
		b := d.bids(1, items, 3)
		v := b.Worth[0]
		set := 1 + d.n(len(v)-1)
		v[set] = max(0, v[set]-d.n(3))
		want := api.OK
		for less := range v {
			for more := range v {
				if less&^more == 0 && v[less] > v[more] {
					want = api.ErrState
				}
			}
		}
		many[want]++
		if e := auction.May(b); e != want {
			t.Fatalf("May(%v): error %d, want %d", b, e, want)
		}
	}
	if min(many[api.OK], many[api.ErrState]) < 100 {
		t.Errorf("too few of a kind: %v", many)
	}
}

// ways calls f with all ways to give things to so many bidders, or to nobody: thing by thing.
func ways(items, bidders int, f func(sets []int)) {
	owners := make([]int, items)
	for i := 0; i >= 0; {
		sets := make([]int, bidders+1)
		for thing, who := range owners {
			sets[who] |= 1 << thing
		}
		f(sets[:bidders])
		for i = items - 1; i >= 0 && owners[i] == bidders; i-- {
			owners[i] = 0
		}
		if i >= 0 {
			owners[i]++
		}
	}
}

// together is what sets are worth to all bidders but one (-1: all).
func together(b api.Bids, sets []int, but int) int {
	sum := 0
	for i, set := range sets {
		if i != but {
			sum += b.Worth[i][set]
		}
	}
	return sum
}

// sale is what Share is to answer.
func sale(b api.Bids) api.Sale {
	var s api.Sale
	most := make([]int, len(b.Worth))
	ways(b.Items, len(b.Worth), func(sets []int) {
		now, was := together(b, sets, -1), -1
		if s.Sets != nil {
			was = together(b, s.Sets, -1)
		}
		if now > was || now == was && slices.Compare(sets, s.Sets) < 0 {
			s.Sets = slices.Clone(sets)
		}
		for i := range most {
			most[i] = max(most[i], together(b, sets, i))
		}
	})
	for i := range most {
		s.Pays = append(s.Pays, most[i]-together(b, s.Sets, i))
	}
	return s
}

func TestC2Share(t *testing.T) {
	for _, c := range []struct {
		b    api.Bids
		want string
	}{
		{example(), "{[2 1 0] [3 3 0]}"}, {of(0, []int{0}), "{[0] [0]}"}, {of(0, []int{0}, []int{0}), "{[0 0] [0 0]}"}, {of(1, []int{0, 5}, []int{0, 9}, []int{0, 7}), "{[0 1 0] [0 7 0]}"}, {of(1, []int{0, 1000}), "{[1] [0]}"},
		// Of several ways the first one: with what is worth nothing nobody is given it, and the last one of equals gets it.
		{of(1, []int{0, 0}), "{[0] [0]}"}, {of(1, []int{0, 4}, []int{0, 4}), "{[0 1] [0 4]}"}, {of(2, []int{0, 3, 3, 3}), "{[1] [0]}"}, {of(2, []int{0, 3, 3, 3}, []int{0, 3, 3, 3}), "{[1 2] [0 0]}"}, {of(2, []int{0, 0, 0, 8}, []int{0, 0, 0, 8}, []int{0, 4, 4, 8}), "{[0 0 3] [0 0 8]}"},
		{of(2, []int{0, 0, 0, 5}, []int{0, 3, 0, 3}, []int{0, 0, 4, 4}), "{[0 1 2] [0 1 2]}"}, {of(2, []int{0, 0, 0, 9}, []int{0, 3, 0, 3}, []int{0, 0, 4, 4}), "{[3 0 0] [7 0 0]}"},
	} {
		if got, e := auction.Share(c.b); fmt.Sprint(got) != c.want || e != api.OK {
			t.Errorf("Share(%v): %v, error %d, want %s", c.b, got, e, c.want)
		}
	}
}

func TestC2ShareOfDrawn(t *testing.T) {
	drawn(1200, func(b api.Bids) {
		got, e := auction.Share(b)
		if want := sale(b); fmt.Sprint(got) != fmt.Sprint(want) || e != api.OK {
			t.Fatalf("Share(%v): %v, error %d, want %v", b, got, e, want)
		}
		for i, pays := range got.Pays {
			if pays < 0 || pays > b.Worth[i][got.Sets[i]] {
				t.Fatalf("Share(%v): %v", b, got)
			}
		}
	})
}

// Of one thing Share is Second, but that the last one of equals wins.
func TestC2ShareOfOne(t *testing.T) {
	lists(5, func(l []int) {
		var b api.Bids
		b.Items = 1
		for _, bid := range slices.Backward(l) {
			b.Worth = append(b.Worth, []int{0, bid})
		}
		winner, pays, _ := auction.Second(l)
		got, _ := auction.Share(b)
		if slices.Max(l) == 0 {
			return
		}
		slices.Reverse(got.Sets)
		slices.Reverse(got.Pays)
		if got.Sets[winner] != 1 || got.Pays[winner] != pays {
			t.Fatalf("Share(%v): %v, but Second %d %d", l, got, winner, pays)
		}
	})
}

func TestC2HonestShare(t *testing.T) {
	d := die(3)
	drawn(400, func(b api.Bids) {
		i := d.n(len(b.Worth))
		gain := func(says []int) int {
			told := api.Bids{Items: b.Items, Worth: slices.Clone(b.Worth)}
			told.Worth[i] = says
			s, _ := auction.Share(told)
			return b.Worth[i][s.Sets[i]] - s.Pays[i]
		}
		honest := gain(b.Worth[i])
		for range 8 {
			if lie := d.worth(b.Items, 9); gain(lie) > honest {
				t.Fatalf("Share(%v): %d gains %d by %v, else %d", b, i, gain(lie), lie, honest)
			}
		}
	})
}

func TestC3Slots(t *testing.T) {
	for _, c := range []struct {
		l, sets []int
		want    string
	}{
		{[]int{5, 4, 6}, []int{3, 4}, "3 [2 1 0]"}, {[]int{5, 4, 6}, []int{4, 3}, "3 [3 2 0]"}, {[]int{5, 4, 9}, []int{3, 4}, "3 [5 4 0]"}, {[]int{5, 4, 9}, []int{4, 3}, "4 [0 0 9]"}, {[]int{5, 4, 10}, []int{3, 4}, "4 [0 0 10]"},
		{[]int{7}, []int{1}, "1 [0]"}, {[]int{7}, []int{0}, "0 [0]"}, {[]int{7}, []int{0, 1}, "1 [1]"}, {[]int{7}, []int{1, 0}, "1 [0]"}, {[]int{0}, []int{0, 1}, "0 [0]"}, {[]int{0}, []int{1, 0}, "1 [0]"}, {[]int{1000}, []int{0, 1}, "1 [1]"},
		{[]int{5, 9, 7}, []int{1, 2, 4}, "2 [0 7 0]"}, {[]int{5, 9, 7}, []int{4, 2, 1}, "2 [0 8 0]"}, {[]int{9, 9}, []int{2, 1}, "2 [0 9]"}, {[]int{9, 9}, []int{1, 2}, "1 [9 0]"},
		{[]int{1, 2, 3, 4}, []int{15}, "15 [0 0 0 0]"}, {[]int{1, 2, 3, 4}, []int{5, 10, 12, 3}, "12 [0 0 3 2]"}, {[]int{1, 2, 3, 4}, slices.Repeat([]int{6}, 16), "6 [0 0 0 0]"}, {[]int{1000, 1000, 1000, 1000}, []int{14, 13, 11, 7}, "14 [0 1000 1000 1000]"}, {[]int{0, 0, 0, 0}, []int{0, 1, 2, 15}, "0 [0 0 0 0]"},
		// With a bid of less it would win too, by another set.
		{[]int{9, 1, 1}, []int{3, 5, 6}, "3 [1 1 0]"}, {[]int{9, 5, 1}, []int{5, 3, 6}, "3 [1 2 0]"},
	} {
		w, pays, e := auction.Slots(c.l, c.sets)
		if got := fmt.Sprint(w, pays); got != c.want || e != api.OK {
			t.Errorf("Slots(%v, %v): %s, error %d, want %s", c.l, c.sets, got, e, c.want)
		}
	}
}

func TestC3SlotsRefused(t *testing.T) {
	l := []int{5, 4, 6}
	for _, c := range []struct {
		l, sets []int
		want    api.Errno
	}{
		{l, nil, api.ErrLimit}, {l, []int{}, api.ErrLimit}, {l, make([]int, 17), api.ErrLimit}, {l, slices.Repeat([]int{-1}, 17), api.ErrLimit}, {l, make([]int, 70000), api.ErrLimit},
		{l, []int{-1}, api.ErrWho}, {l, []int{8}, api.ErrWho}, {l, []int{3, 4, 9}, api.ErrWho}, {l, []int{3, math.MinInt}, api.ErrWho}, {l, []int{math.MaxInt, 1}, api.ErrWho}, {[]int{1}, []int{2}, api.ErrWho}, {[]int{1, 1, 1, 1}, []int{16}, api.ErrWho}, {l, append(make([]int, 15), 8), api.ErrWho},
		{l, make([]int, 16), api.OK}, {l, []int{7}, api.OK}, {[]int{1, 1, 1, 1}, []int{15}, api.OK},
	} {
		w, pays, e := auction.Slots(c.l, c.sets)
		if e != c.want || e != api.OK && (w != 0 || len(pays) != 0) {
			t.Errorf("Slots(%v, %v): %d %v, error %d, want %d", c.l, c.sets, w, pays, e, c.want)
		}
	}
}

// slots is what Slots is to answer: the least bid is what the best set without one is ahead by of the best one with it, and 1 more, if it stands ahead.
func slots(l, sets []int) (winners int, pays []int) {
	sum := func(set, but int) int {
		s := 0
		for i, bid := range l {
			if i != but {
				s += bid * (set >> i & 1)
			}
		}
		return s
	}
	// Of the greatest sums MaxFunc tells the first one.
	winners = slices.MaxFunc(sets, func(a, b int) int { return sum(a, -1) - sum(b, -1) })
	pays = make([]int, len(l))
	for i := range l {
		if winners>>i&1 == 0 {
			continue
		}
		best, at := [2]int{-1, -1}, [2]int{}
		for k, set := range sets {
			if in := set >> i & 1; sum(set, i) > best[in] {
				best[in], at[in] = sum(set, i), k
			}
		}
		if best[0] < 0 {
			continue
		}
		pays[i] = best[0] - best[1]
		if at[0] < at[1] {
			pays[i]++
		}
		pays[i] = max(0, pays[i])
	}
	return winners, pays
}

func TestC3SlotsOfDrawn(t *testing.T) {
	d := die(31)
	for i := range 4000 {
		n := 1 + d.n(api.MaxBidders)
		l, sets := d.list(n, []int{3, 12, api.MaxBid + 1}[i%3]), d.list(1+d.n(16), 1<<n)
		winners, pays := slots(l, sets)
		w, p, e := auction.Slots(l, sets)
		if w != winners || !slices.Equal(p, pays) || e != api.OK {
			t.Fatalf("Slots(%v, %v): %d %v, error %d, want %d %v", l, sets, w, p, e, winners, pays)
		}
		for i := range l {
			if p[i] > l[i] {
				t.Fatalf("Slots(%v, %v): %v", l, sets, p)
			}
		}
	}
}

func TestC3HonestSlots(t *testing.T) {
	d := die(8)
	for range 600 {
		n := 1 + d.n(api.MaxBidders)
		l, sets := d.list(n, 7), d.list(1+d.n(5), 1<<n)
		for i := range l {
			gain := func(bid int) int {
				w, pays, _ := auction.Slots(with(l, i, bid), sets)
				return l[i]*(w>>i&1) - pays[i]
			}
			honest := gain(l[i])
			for bid := range 15 {
				if gain(bid) > honest {
					t.Fatalf("Slots(%v, %v): %d gains %d by %d, else %d", l, sets, i, gain(bid), bid, honest)
				}
			}
		}
	}
}

func TestX2NothingIsChanged(t *testing.T) {
	d := die(6)
	drawn(400, func(b api.Bids) {
		// Behind each list stands something that no call may write to.
		n := len(b.Worth)
		rows := append(slices.Clone(b.Worth), []int{77})
		for i, v := range b.Worth {
			rows[i] = append(slices.Clone(v), 88)[:len(v)]
		}
		l, sets := append(d.list(n, 30), 99), append(d.list(5, 1<<n), 99)
		whole := func() string {
			text := fmt.Sprint(rows, l, sets)
			for _, v := range rows[:n] {
				text += fmt.Sprint(v[:len(v)+1])
			}
			return text
		}
		answers := func() string {
			s, e := auction.Share(api.Bids{Items: b.Items, Worth: rows[:n]})
			return fmt.Sprint(s, e, calls(l[:n], sets[:5]))
		}
		before, first := whole(), answers()
		if after := whole(); after != before {
			t.Fatalf("changed: %s, was %s", after, before)
		}
		if again := answers(); again != first {
			t.Fatalf("%s: asked again: %s, was %s", before, again, first)
		}
	})
}

// spoil writes into a list, and behind its end.
func spoil(l []int) {
	l = l[:cap(l)]
	for i := range l {
		l[i] = 12345
	}
}

func TestX2FreshAnswers(t *testing.T) {
	drawn(200, func(b api.Bids) {
		before := fmt.Sprint(b)
		s, _ := auction.Share(b)
		pays := slices.Clone(s.Pays)
		spoil(s.Sets)
		if !slices.Equal(s.Pays, pays) {
			t.Fatalf("Share(%v): Sets and Pays share memory", b)
		}
		spoil(s.Pays)
		if after := fmt.Sprint(b); after != before {
			t.Fatalf("%s, was %s", after, before)
		}
	})
	l, sets := []int{5, 4, 6}, []int{3, 4}
	_, pays, _ := auction.Slots(l, sets)
	spoil(pays)
	if fmt.Sprint(l, sets) != "[5 4 6] [3 4]" {
		t.Error(l, sets)
	}
}
