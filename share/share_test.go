package share_test

import (
	"fmt"
	"math"
	"slices"
	"testing"

	"agora/api"
	"agora/share"
)

// die draws numbers that look drawn, the same each time.
type die uint64

func (d *die) n(most int) int {
	*d = *d*6364136223846793005 + 1442695040888963407
	return int(uint64(*d>>33) % uint64(most))
}

func (d *die) list(n, most int) []int {
	l := make([]int, n)
	for i := range l {
		l[i] = d.n(most)
	}
	return l
}

// values draws what so many things are worth to so many guests.
func (d *die) values(guests, things, most int) [][]int {
	var v [][]int
	for range guests {
		v = append(v, d.list(things, most))
	}
	return v
}

// drawn calls f with values of all kinds: noughts, many ties, great ones; of least goods or more.
func drawn(many, least, most int, f func(v [][]int)) {
	d := die(15)
	for i := range many {
		f(d.values(1+d.n(api.MaxGuests), least+d.n(most-least+1), []int{2, 3, 9, 40, api.MaxWorth + 1}[i%5]))
	}
}

// said is what a call answers, as a text, and its error.
type said struct {
	text string
	e    api.Errno
}

// calls are all of them that ask for values of goods.
func calls(v [][]int, give []int) map[string]said {
	a, e := share.Turns(v)
	b, f := share.Circles(v)
	c, g := share.Envy(v, give)
	d, h := share.Even(v)
	return map[string]said{"Turns": {fmt.Sprint(a), e}, "Circles": {fmt.Sprint(b), f}, "Envy": {fmt.Sprint(c), g}, "Even": {fmt.Sprint(d), h}}
}

func TestF1May(t *testing.T) {
	for _, v := range [][][]int{
		{{}}, {nil}, {{}, nil, {}, {}}, {{0}}, {{api.MaxWorth}}, {{0, 0}, {0, 0}}, {{5, 3, 1}, {1, 4, 2}}, {make([]int, api.MaxGoods)}, {{1, 2, 3, 4, 5, 6, 7, 1000}, make([]int, 8), make([]int, 8), {1000, 0, 0, 0, 0, 0, 0, 0}},
	} {
		if e := share.May(v); e != api.OK {
			t.Errorf("May(%v): error %d", v, e)
		}
	}
	drawn(400, 0, api.MaxGoods, func(v [][]int) {
		if e := share.May(v); e != api.OK {
			t.Fatalf("May(%v): error %d", v, e)
		}
	})
}

// wrong are values that may be neither those of goods nor those of a cake.
func wrong() map[api.Errno][][][]int {
	great := api.MaxWorth + 1
	return map[api.Errno][][][]int{
		api.ErrCount: {
			nil, {}, {{1}, {1}, {1}, {1}, {1}}, make([][]int, 5), make([][]int, 70000), {make([]int, 9)}, {make([]int, 70000)}, {make([]int, 9), make([]int, 9)},
			{{1}, {1, 2}}, {{1, 2}, {1}}, {{1}, {}}, {{}, {1}}, {nil, {1}}, {{1}, nil}, {{1, 2}, {1, 2}, {1, 2}, {1}}, {{1, 2}, {1, 2}, {1, 2, 3}, {1, 2}}, {make([]int, 8), make([]int, 9)},
			{{-1}, {1, 2}}, {{great, 1}, {1}}, {{-1}, {1}, {1}, {1}, {1}}, {{-1, 0, 0, 0, 0, 0, 0, 0, 0}}, // the count ahead of the values
		},
		api.ErrValue: {
			{{-1}}, {{great}}, {{math.MinInt}}, {{math.MaxInt}}, {{0, 1, 2, 3, 4, 5, 6, -1}}, {{0, great, 2}}, {{1, 2}, {1, -1}}, {{1, 2}, {great, 1}}, {{1}, {1}, {1}, {great}}, {{1, 2}, {3, 4}, {-5, 6}},
		},
	}
}

func TestF1AllCallsSayItFirst(t *testing.T) {
	for want, l := range wrong() {
		for _, v := range l {
			if e := share.May(v); e != want {
				t.Errorf("May(%v): error %d, want %d", v, e, want)
			}
			for _, give := range [][]int{nil, {0}, {-2}, {9, 9}, make([]int, 70000)} {
				for name, got := range calls(v, give) {
					if got != (said{"[]", want}) {
						t.Errorf("%s(%v, %v): %v, want error %d", name, v, give, got, want)
					}
				}
			}
		}
	}
}

// sum is what the goods of one guest are worth, by values.
func sum(values, give []int, whose int) int {
	all := 0
	for good := range give {
		if give[good] == whose {
			all += values[good]
		}
	}
	return all
}

// envy is F2's, good by good that could be left out.
func envy(v [][]int, give []int) [][]int {
	var all [][]int
	for i := range v {
		l := make([]int, len(v))
		for j := range v {
			own, other := sum(v[i], give, i), sum(v[i], give, j)
			if i == j || other <= own {
				continue
			}
			l[j] = 2
			for good := range give {
				if give[good] == j && other-v[i][good] <= own {
					l[j] = 1
				}
			}
		}
		all = append(all, l)
	}
	return all
}

func TestF2Turns(t *testing.T) {
	for _, c := range []struct {
		v    [][]int
		want string
	}{
		{[][]int{{5, 3, 1}, {1, 4, 2}}, "[0 1 0]"}, {[][]int{{}}, "[]"}, {[][]int{{}, {}, {}, {}}, "[]"}, {[][]int{{0}}, "[0]"}, {[][]int{{0}, {9}}, "[0]"}, {[][]int{{3, 1, 2}}, "[0 0 0]"},
		{[][]int{{0, 0, 0}, {0, 0, 0}}, "[0 1 0]"}, {[][]int{{4, 4, 4, 4}, {4, 4, 4, 4}, {4, 4, 4, 4}}, "[0 1 2 0]"}, {[][]int{{1, 5, 5}, {0, 3, 3}}, "[0 0 1]"}, {[][]int{{1, 2, 3, 4}, {1, 2, 3, 4}}, "[1 0 1 0]"},
		{[][]int{{9, 8, 7, 6}, {6, 7, 8, 9}}, "[0 0 1 1]"}, {[][]int{{1, 2}, {2, 1}, {5, 5}, {5, 5}}, "[1 0]"}, {[][]int{{0, 0, 0, 0, 0, 0, 0, 1000}, {0, 0, 0, 0, 0, 0, 5, 1000}}, "[0 1 0 1 0 1 1 0]"},
	} {
		if got := calls(c.v, nil)["Turns"]; got != (said{c.want, api.OK}) {
			t.Errorf("Turns(%v): %v, want %s", c.v, got, c.want)
		}
	}
}

// The turns, told again: each guest asks its goods from the dearest on, as sorted, which are there.
func TestF2TurnsOfDrawn(t *testing.T) {
	drawn(1500, 0, api.MaxGoods, func(v [][]int) {
		want := slices.Repeat([]int{-1}, len(v[0]))
		for turn := range want {
			guest := turn % len(v)
			var l []int
			for good := range want {
				l = append(l, good)
			}
			slices.SortStableFunc(l, func(a, b int) int { return v[guest][b] - v[guest][a] })
			k := slices.IndexFunc(l, func(good int) bool { return want[good] < 0 })
			want[l[k]] = guest
		}
		got, e := share.Turns(v)
		if !slices.Equal(got, want) || e != api.OK {
			t.Fatalf("Turns(%v): %v, error %d, want %v", v, got, e, want)
		}
	})
}

func TestF2Envy(t *testing.T) {
	for _, c := range []struct {
		v    [][]int
		give []int
		want string
	}{
		{[][]int{{5, 3, 1}, {1, 4, 2}}, []int{0, 1, 0}, "[[0 0] [0 0]]"}, {[][]int{{5, 3, 1}, {1, 4, 2}}, []int{1, 0, 1}, "[[0 1] [1 0]]"}, {[][]int{{}}, nil, "[[0]]"}, {[][]int{{}, {}}, []int{}, "[[0 0] [0 0]]"}, {[][]int{{7}}, []int{-1}, "[[0]]"}, {[][]int{{7}}, []int{0}, "[[0]]"},
		{[][]int{{7}, {7}}, []int{-1}, "[[0 0] [0 0]]"}, {[][]int{{7}, {7}}, []int{0}, "[[0 0] [1 0]]"}, {[][]int{{7}, {0}}, []int{1}, "[[0 1] [0 0]]"}, {[][]int{{7}, {0}}, []int{0}, "[[0 0] [0 0]]"},
		{[][]int{{1, 1}, {1, 1}}, []int{0, 0}, "[[0 0] [2 0]]"}, {[][]int{{1, 1}, {0, 1}}, []int{0, 0}, "[[0 0] [1 0]]"}, {[][]int{{1, 1}, {1, 1}}, []int{0, -1}, "[[0 0] [1 0]]"}, {[][]int{{1, 1, 1}, {3, 2, 2}}, []int{0, 0, 1}, "[[0 0] [1 0]]"}, {[][]int{{1, 1, 1}, {3, 3, 2}}, []int{0, 0, 1}, "[[0 0] [2 0]]"},
		{[][]int{{2, 2, 4}, {1, 1, 1}}, []int{0, 0, 1}, "[[0 0] [1 0]]"}, {[][]int{{2, 2, 5}, {0, 0, 0}}, []int{0, 0, 1}, "[[0 1] [0 0]]"},
		// Without the dearest one, not without the first or the last one.
		{[][]int{{0, 0, 0, 0}, {1, 9, 1, 2}}, []int{0, 0, 0, 1}, "[[0 0] [1 0]]"}, {[][]int{{0, 0, 0, 0}, {1, 9, 2, 2}}, []int{0, 0, 0, 1}, "[[0 0] [2 0]]"}, {[][]int{{0, 0, 0, 0}, {9, 1, 1, 2}}, []int{0, 0, 0, 1}, "[[0 0] [1 0]]"}, {[][]int{{0, 0, 0, 0}, {1, 1, 9, 2}}, []int{0, 0, 0, 1}, "[[0 0] [1 0]]"},
		{[][]int{{1, 2, 3}, {3, 1, 2}, {2, 3, 1}}, []int{0, 1, 2}, "[[0 1 1] [1 0 1] [1 1 0]]"}, {[][]int{{1, 1, 1, 1}, {1, 1, 1, 1}, {1, 1, 1, 1}, {1, 1, 1, 1}}, []int{3, 3, 3, 0}, "[[0 0 0 2] [1 0 0 2] [1 0 0 2] [0 0 0 0]]"},
	} {
		if got := calls(c.v, c.give)["Envy"]; got != (said{c.want, api.OK}) {
			t.Errorf("Envy(%v, %v): %v, want %s", c.v, c.give, got, c.want)
		}
	}
}

func TestF2EnvyOfDrawn(t *testing.T) {
	d := die(2)
	many := [3]int{}
	drawn(3000, 0, api.MaxGoods, func(v [][]int) {
		give := d.list(len(v[0]), len(v)+1)
		for good := range give {
			give[good]--
		}
		got, e := share.Envy(v, give)
		want := envy(v, give)
		if fmt.Sprint(got) != fmt.Sprint(want) || e != api.OK {
			t.Fatalf("Envy(%v, %v): %v, error %d, want %v", v, give, got, e, want)
		}
		for _, k := range slices.Concat(want...) {
			many[k]++
		}
	})
	if slices.Min(many[:]) < 1000 {
		t.Errorf("too few of a kind: %v", many)
	}
}

func TestF2EnvyNot(t *testing.T) {
	v := [][]int{{5, 3, 1}, {1, 4, 2}}
	for want, l := range map[api.Errno][][]int{
		api.ErrCount: {nil, {}, {0, 1}, {0, 1, 0, 1}, {9, 9}, {0, 1, -2, 5}, make([]int, 70000)},
		api.ErrWho:   {{0, 1, 2}, {2, 1, 0}, {0, -2, 1}, {0, 1, math.MaxInt}, {math.MinInt, 0, 0}, {-1, -1, -2}, {-1, 0, 3}},
	} {
		for _, give := range l {
			if got := calls(v, give)["Envy"]; got != (said{"[]", want}) {
				t.Errorf("Envy(%v, %v): %v, want error %d", v, give, got, want)
			}
		}
	}
	if got := calls([][]int{{}}, []int{0})["Envy"]; got != (said{"[]", api.ErrCount}) {
		t.Errorf("Envy of no goods, one given: %v", got)
	}
	if got := calls([][]int{{1}}, []int{1})["Envy"]; got != (said{"[]", api.ErrWho}) {
		t.Errorf("Envy of one guest, the good of another one: %v", got)
	}
}

// fair says whether all goods are given, so that no envy is more than one good's.
func fair(v [][]int, give []int) bool {
	if len(give) != len(v[0]) {
		return false
	}
	for _, guest := range give {
		if guest < 0 || guest >= len(v) {
			return false
		}
	}
	return !slices.Contains(slices.Concat(envy(v, give)...), 2)
}

func TestF2Circles(t *testing.T) {
	check := func(v [][]int) {
		if got, e := share.Circles(v); !fair(v, got) || e != api.OK {
			t.Fatalf("Circles(%v): %v, error %d", v, got, e)
		}
	}
	for _, v := range [][][]int{
		{{}}, {{}, {}, {}, {}}, {{0}}, {{7, 7, 7}}, {{0, 0, 0}, {0, 0, 0}}, {{1000, 1000, 1000, 1000, 1000, 1000, 1000, 1000}, {1000, 1000, 1000, 1000, 1000, 1000, 1000, 1000}},
		// The first two goods go to who would rather have the other one: they change.
		{{1, 2, 9}, {2, 1, 9}}, {{1, 5, 9, 9}, {5, 1, 9, 9}}, {{1, 5, 3, 9}, {3, 1, 5, 9}, {5, 3, 1, 9}}, {{1, 3, 5, 9}, {5, 1, 3, 9}, {3, 5, 1, 9}},
		{{1, 9, 5, 0, 7}, {1, 3, 9, 2, 7}, {9, 1, 5, 2, 7}, {4, 2, 9, 1, 7}}, {{0, 0, 5}, {9, 9, 9}}, {{9, 9, 9}, {0, 0, 5}},
	} {
		check(v)
	}
	drawn(6000, 0, api.MaxGoods, check)
}

// Two guests, three goods, of all small values.
func TestF2CirclesOfAllSmall(t *testing.T) {
	const most = 3
	for code := range most * most * most * most * most * most {
		v := [][]int{make([]int, 3), make([]int, 3)}
		for i, rest := 0, code; i < 6; i, rest = i+1, rest/most {
			v[i/3][i%3] = rest % most
		}
		if got, e := share.Circles(v); !fair(v, got) || e != api.OK {
			t.Fatalf("Circles(%v): %v, error %d", v, got, e)
		}
	}
}

// ways calls f with all ways to give so many goods to so many guests, in order: as the digits of numbers.
func ways(goods, guests int, f func(give []int)) {
	all := 1
	for range goods {
		all *= guests
	}
	for code := range all {
		give := make([]int, goods)
		for good, rest := goods-1, code; good >= 0; good, rest = good-1, rest/guests {
			give[good] = rest % guests
		}
		f(give)
	}
}

// even is what Even is to answer.
func even(v [][]int) []int {
	var best []int
	guests, product := -1, 0
	ways(len(v[0]), len(v), func(give []int) {
		many, times := 0, 1
		for i := range v {
			if s := sum(v[i], give, i); s > 0 {
				many, times = many+1, times*s
			}
		}
		if many > guests || many == guests && times > product {
			best, guests, product = give, many, times
		}
	})
	return best
}

func TestF2Even(t *testing.T) {
	for _, c := range []struct {
		v    [][]int
		want string
	}{
		{[][]int{{5, 3, 1}, {1, 4, 2}}, "[0 1 1]"}, {[][]int{{}}, "[]"}, {[][]int{{}, {}, {}}, "[]"}, {[][]int{{4, 0}}, "[0 0]"},
		// With nothing that is worth anything the first way; what is worth nothing to anybody goes to the first guest.
		{[][]int{{0, 0}, {0, 0}}, "[0 0]"}, {[][]int{{0, 2, 0}, {0, 0, 2}}, "[0 0 1]"},
		// One good for two: to whom it is worth the most, or to the first one.
		{[][]int{{3}, {4}}, "[1]"}, {[][]int{{4}, {4}}, "[0]"}, {[][]int{{0}, {1}, {0}}, "[1]"}, {[][]int{{4}, {3}}, "[0]"},
		// More guests ahead of a greater product.
		{[][]int{{1000, 1000}, {0, 1}}, "[0 1]"}, {[][]int{{1, 1000}, {0, 1}}, "[0 1]"}, {[][]int{{1000, 1000}, {1, 0}}, "[1 0]"}, {[][]int{{0, 0}, {5, 5}}, "[1 1]"},
		{[][]int{{1, 1}, {1, 1}}, "[0 1]"}, {[][]int{{1, 1, 1}, {1, 1, 1}}, "[0 0 1]"}, {[][]int{{1, 1, 1, 1}, {1, 1, 1, 1}}, "[0 0 1 1]"},
		// Three guests, of whom two can have something: those with the greater product.
		{[][]int{{2, 2}, {3, 3}, {4, 4}}, "[1 2]"}, {[][]int{{4, 4}, {3, 3}, {2, 2}}, "[0 1]"}, {[][]int{{4, 4}, {2, 2}, {3, 3}}, "[0 2]"},
		{[][]int{{1000, 1000, 1000, 1000, 1000, 1000, 1000, 1000}, {1000, 1000, 1000, 1000, 1000, 1000, 1000, 999}, {1000, 1000, 1000, 1000, 1000, 1000, 1000, 1000}, {999, 1000, 1000, 1000, 1000, 1000, 1000, 1000}}, "[0 0 1 1 2 2 3 3]"},
		{[][]int{{1000, 999, 1000, 1000, 1000, 1000, 1000, 1000}, {1000, 1000, 1000, 1000, 1000, 1000, 1000, 1000}, {1000, 1000, 1000, 1000, 1000, 1000, 1000, 1000}, {1000, 1000, 1000, 1000, 1000, 1000, 1000, 1000}}, "[0 1 0 1 2 2 3 3]"},
	} {
		if got := calls(c.v, nil)["Even"]; got != (said{c.want, api.OK}) {
			t.Errorf("Even(%v): %v, want %s", c.v, got, c.want)
		}
	}
}

func TestF2EvenOfDrawn(t *testing.T) {
	check := func(v [][]int) {
		got, e := share.Even(v)
		if want := even(v); !slices.Equal(got, want) || e != api.OK {
			t.Fatalf("Even(%v): %v, error %d, want %v", v, got, e, want)
		}
	}
	drawn(500, 0, 5, check)
	drawn(20, 6, api.MaxGoods, check)
}

// What follows from F2: Turns and Even, too, leave no envy but for one good, and Even can't be bettered.
func TestF2WhatFollows(t *testing.T) {
	drawn(250, 0, 5, func(v [][]int) {
		turns, _ := share.Turns(v)
		best, _ := share.Even(v)
		if !fair(v, turns) || !fair(v, best) {
			t.Fatalf("%v: turns %v, even %v", v, turns, best)
		}
		ways(len(v[0]), len(v), func(give []int) {
			better, worse := false, false
			for i := range v {
				now, was := sum(v[i], give, i), sum(v[i], best, i)
				better, worse = better || now > was, worse || now < was
			}
			if better && !worse {
				t.Fatalf("Even(%v): %v, but %v is better", v, best, give)
			}
		})
	})
}

// all are the answers of all calls, as lists.
func all(v [][]int, give []int) [][]int {
	a, _ := share.Turns(v)
	b, _ := share.Circles(v)
	c, _ := share.Even(v)
	d, _ := share.Envy(v, give)
	return append([][]int{a, b, c}, d...)
}

func TestX2NothingIsChanged(t *testing.T) {
	d := die(8)
	drawn(200, 1, 5, func(v [][]int) {
		// Behind each list stands something that no call may write to.
		outer := append(slices.Clone(v), []int{77})
		for i := range v {
			outer[i] = append(slices.Clone(v[i]), 88)[:len(v[i])]
		}
		give := append(d.list(len(v[0]), len(v)), 99)
		whole := func() string {
			text := fmt.Sprint(outer, give)
			for _, l := range outer[:len(v)] {
				text += fmt.Sprint(l[:len(l)+1])
			}
			return text
		}
		before := whole()
		first := fmt.Sprint(all(outer[:len(v)], give[:len(give)-1]), cakes(outer[:len(v)]))
		if after := whole(); after != before {
			t.Fatalf("changed: %s, was %s", after, before)
		}
		if again := fmt.Sprint(all(v, give[:len(give)-1]), cakes(v)); again != first {
			t.Fatalf("%v: asked again: %s, was %s", v, again, first)
		}
	})
}

func TestX2FreshAnswers(t *testing.T) {
	d := die(6)
	drawn(200, 1, 5, func(v [][]int) {
		give := d.list(len(v[0]), len(v))
		lists := append(all(v, give), give)
		before := fmt.Sprint(lists)
		for _, l := range lists {
			_ = append(l, 7)
		}
		if after := fmt.Sprint(lists); after != before {
			t.Fatalf("%v: %s, was %s", v, after, before)
		}
		for i, l := range lists {
			for k := range l {
				l[k] = 5000 + i
			}
			for _, other := range lists[:i] {
				if slices.Contains(other, 5000+i) {
					t.Fatalf("%v: lists share memory", v)
				}
			}
			if slices.Contains(slices.Concat(v...), 5000+i) {
				t.Fatalf("%v: a list shares memory with what was handed in", v)
			}
		}
	})
}
