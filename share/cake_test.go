package share_test

import (
	"fmt"
	"math"
	"math/big"
	"strings"
	"testing"

	"agora/api"
	"agora/exact"
	"agora/share"
)

func rat(q api.Q) *big.Rat {
	r, ok := new(big.Rat).SetString(string(q))
	if !ok {
		panic(string(q))
	}
	return r
}

func text(r *big.Rat) api.Q { return api.Q(r.RatString()) }

// worth is what a cake is worth between places, by the part of each slice that lies between them.
func worth(d []int, from, to *big.Rat) *big.Rat {
	all := new(big.Rat)
	for i, value := range d {
		a, b := big.NewRat(int64(i), 1), big.NewRat(int64(i+1), 1)
		if from.Cmp(a) > 0 {
			a = from
		}
		if to.Cmp(b) < 0 {
			b = to
		}
		if a.Cmp(b) < 0 {
			length := new(big.Rat).Sub(b, a)
			all.Add(all, length.Mul(length, big.NewRat(int64(value), 1)))
		}
	}
	return all
}

// cut is the first place up to which it is worth so much, walked to slice by slice; nil, if there is none.
func cut(d []int, from, much *big.Rat) *big.Rat {
	at, left := new(big.Rat).Set(from), new(big.Rat).Set(much)
	for left.Sign() > 0 {
		slice := int(new(big.Int).Quo(at.Num(), at.Denom()).Int64())
		if slice == len(d) {
			return nil
		}
		next := big.NewRat(int64(slice+1), 1)
		here := worth(d, at, next)
		if here.Cmp(left) >= 0 {
			return at.Add(at, left.Quo(left, big.NewRat(int64(d[slice]), 1)))
		}
		at, left = next, left.Sub(left, here)
	}
	return at
}

// cakes are all calls that ask for a cake, of all its guests, and of the first one alone.
func cakes(d [][]int) map[string]said {
	one := []int(nil)
	if len(d) > 0 {
		one = d[0]
	}
	w, e := share.Worth(one, "1/3", "1")
	c, f := share.Cut(one, "1/3", "0")
	at, takes, g := share.Halves(d)
	k, h := share.Knife(d)
	return map[string]said{"Worth": {string(w), e}, "Cut": {string(c), f}, "Halves": {fmt.Sprintf("%s %d", at, takes), g}, "Knife": {fmt.Sprint(k), h}}
}

func TestF3Cake(t *testing.T) {
	for _, d := range [][][]int{
		{{0}}, {{api.MaxWorth}}, {{0}, {0}, {0}, {0}}, {{2, 0, 4}, {1, 1, 1}}, {make([]int, api.MaxSlices)}, {{1, 2, 3, 4, 5, 6, 7, 1000}, make([]int, 8), make([]int, 8), {1000, 0, 0, 0, 0, 0, 0, 0}},
	} {
		if e := share.Cake(d); e != api.OK {
			t.Errorf("Cake(%v): error %d", d, e)
		}
	}
	drawn(400, 1, api.MaxSlices, func(d [][]int) {
		if e := share.Cake(d); e != api.OK {
			t.Fatalf("Cake(%v): error %d", d, e)
		}
	})
}

func TestF3CakeNot(t *testing.T) {
	l := wrong()
	l[api.ErrCount] = append(l[api.ErrCount], [][]int{{}}, [][]int{nil}, [][]int{{}, {}}, [][]int{{}, {}, {}, {}})
	for want, cases := range l {
		for _, d := range cases {
			if e := share.Cake(d); e != want {
				t.Errorf("Cake(%v): error %d, want %d", d, e, want)
			}
			if got := cakes(d)["Halves"]; got != (said{" 0", want}) {
				t.Errorf("Halves(%v): %q, error %d, want %d", d, got.text, got.e, want)
			}
			if got := cakes(d)["Knife"]; got != (said{"[]", want}) {
				t.Errorf("Knife(%v): %v, want error %d", d, got, want)
			}
		}
	}
}

// One guest's slices: Cake's errors are told ahead of those of places.
func TestF3WorthAndCutSayCakeFirst(t *testing.T) {
	for want, l := range map[api.Errno][][]int{
		api.ErrCount: {nil, {}, make([]int, 9), {-1, 0, 0, 0, 0, 0, 0, 0, 0}, make([]int, 70000)},
		api.ErrValue: {{-1}, {api.MaxWorth + 1}, {1, 2, math.MinInt}, {math.MaxInt, 1}, {0, 0, 0, 0, 0, 0, 0, -1}},
	} {
		for _, d := range l {
			for _, from := range []api.Q{"0", "1/2", "-1", "99"} {
				for _, other := range []api.Q{"0", "1", "-1", "99"} {
					if got, e := share.Worth(d, from, other); got != "" || e != want {
						t.Errorf("Worth(%v, %s, %s): %q, error %d, want %d", d, from, other, got, e, want)
					}
					if got, e := share.Cut(d, from, other); got != "" || e != want {
						t.Errorf("Cut(%v, %s, %s): %q, error %d, want %d", d, from, other, got, e, want)
					}
				}
			}
		}
	}
}

func TestF3Worth(t *testing.T) {
	d := []int{2, 0, 4}
	for _, c := range []struct{ from, to, want api.Q }{
		{"0", "3", "6"}, {"0", "1", "2"}, {"1", "2", "0"}, {"2", "3", "4"}, {"0", "0", "0"}, {"3", "3", "0"}, {"1", "1", "0"}, {"0", "1/2", "1"}, {"1/2", "5/2", "3"}, {"9/4", "3", "3"}, {"0", "9/4", "3"}, {"1/3", "1/2", "1/3"}, {"1/3", "2/3", "2/3"}, {"4/3", "5/3", "0"}, {"8/3", "3", "4/3"},
		{"2/4", "010/4", "3"}, {"-0", "3/1", "6"}, {"", "1", "2"}, {"x", "2/4", "1"}, {"1.5", "1", "2"}, {"1/0", "3", "6"}, {"0", "x", "0"}, {"", "", "0"}, {"6/2", "9/3", "0"},
	} {
		if got, e := share.Worth(d, c.from, c.to); got != c.want || e != api.OK {
			t.Errorf("Worth(%v, %s, %s): %q, error %d, want %s", d, c.from, c.to, got, e, c.want)
		}
	}
	for _, c := range [][2]api.Q{
		{"-1", "1"}, {"-1/1000", "3"}, {"1", "0"}, {"1/2", "1/3"}, {"0", "4"}, {"0", "3001/1000"}, {"4", "4"}, {"3", "4"}, {"4", "3"}, {"-2", "-1"}, {"0", "-1"}, {"-1", "4"}, {"1", "x"}, {"3", ""}, {"2", "1"}, {"1/2", "1/0"}, {"5", "1"},
	} {
		if got, e := share.Worth(d, c[0], c[1]); got != "" || e != api.ErrValue {
			t.Errorf("Worth(%v, %s, %s): %q, error %d, want %d", d, c[0], c[1], got, e, api.ErrValue)
		}
	}
}

func TestF3WorthOfDrawn(t *testing.T) {
	die := die(31)
	drawn(1500, 1, api.MaxSlices, func(v [][]int) {
		d := v[0]
		down := 1 + die.n(7)
		a, b := die.n(len(d)*down+1), die.n(len(d)*down+1)
		from, to := big.NewRat(int64(min(a, b)), int64(down)), big.NewRat(int64(max(a, b)), int64(down))
		want := text(worth(d, from, to))
		if got, e := share.Worth(d, text(from), text(to)); got != want || e != api.OK {
			t.Fatalf("Worth(%v, %v, %v): %q, error %d, want %s", d, from, to, got, e, want)
		}
	})
}

func TestF3Cut(t *testing.T) {
	for _, c := range []struct {
		d                 []int
		from, worth, want api.Q
	}{
		{[]int{2, 0, 4}, "0", "3", "9/4"}, {[]int{2, 0, 4}, "0", "2", "1"}, {[]int{2, 0, 4}, "0", "1", "1/2"}, {[]int{2, 0, 4}, "0", "6", "3"}, {[]int{2, 0, 4}, "1", "4", "3"}, {[]int{2, 0, 4}, "1", "1", "9/4"}, {[]int{2, 0, 4}, "1/2", "1", "1"}, {[]int{2, 0, 4}, "1/2", "3/2", "17/8"}, {[]int{2, 0, 4}, "5/2", "1", "11/4"}, {[]int{2, 0, 4}, "5/2", "2", "3"}, {[]int{2, 0, 4}, "3/2", "4", "3"},
		// Nothing is there at once, wherever that is.
		{[]int{2, 0, 4}, "0", "0", "0"}, {[]int{2, 0, 4}, "1", "0", "1"}, {[]int{2, 0, 4}, "6/4", "0", "3/2"}, {[]int{2, 0, 4}, "2", "0", "2"}, {[]int{2, 0, 4}, "3", "0", "3"}, {[]int{2, 0, 4}, "5/2", "x", "5/2"}, {[]int{2, 0, 4}, "", "0", "0"}, {[]int{2, 0, 4}, "x", "1.5", "0"}, {[]int{0, 0}, "0", "0", "0"}, {[]int{0, 0}, "1/7", "-0", "1/7"}, {[]int{0, 0}, "2", "0/3", "2"},
		// The first place: what is worth nothing behind it is not ahead of it.
		{[]int{1, 0, 0}, "0", "1", "1"}, {[]int{0, 0, 1}, "0", "1/2", "5/2"}, {[]int{0, 5, 0, 0}, "1/2", "5", "2"}, {[]int{1, 1, 1, 1, 1, 1, 1, 1}, "1/3", "23/3", "8"}, {[]int{1, 1, 1, 1, 1, 1, 1, 1}, "1/3", "20/6", "11/3"}, {[]int{1000}, "0", "1/3", "1/3000"}, {[]int{7}, "0", "7", "1"},
	} {
		if got, e := share.Cut(c.d, c.from, c.worth); got != c.want || e != api.OK {
			t.Errorf("Cut(%v, %s, %s): %q, error %d, want %s", c.d, c.from, c.worth, got, e, c.want)
		}
	}
}

func TestF3CutNot(t *testing.T) {
	d := []int{2, 0, 4}
	for want, l := range map[api.Errno][][2]api.Q{
		api.ErrValue: {{"-1", "1"}, {"4", "0"}, {"301/100", "0"}, {"-1/9", "0"}, {"0", "-1"}, {"0", "-1/1000"}, {"3", "-1"}, {"4", "-1"}, {"-1", "99"}, {"4", "99"}, {"2", "-99"}},
		api.ErrState: {{"0", "7"}, {"0", "6001/1000"}, {"1", "5"}, {"1/2", "51/10"}, {"3", "1"}, {"3", "1/1000"}, {"5/2", "3"}, {"x", "7"}},
	} {
		for _, c := range l {
			if got, e := share.Cut(d, c[0], c[1]); got != "" || e != want {
				t.Errorf("Cut(%v, %s, %s): %q, error %d, want %d", d, c[0], c[1], got, e, want)
			}
		}
	}
	if got, e := share.Cut([]int{0, 0}, "1", "1/2"); got != "" || e != api.ErrState {
		t.Errorf("Cut of a cake that is worth nothing: %q, error %d", got, e)
	}
}

func TestF3CutOfDrawn(t *testing.T) {
	die := die(77)
	many := map[api.Errno]int{}
	drawn(3000, 1, api.MaxSlices, func(v [][]int) {
		d, down := v[0], 1+die.n(7)
		from := big.NewRat(int64(die.n(len(d)*down+1)), int64(down))
		rest := worth(d, from, big.NewRat(int64(len(d)), 1))
		much := new(big.Rat).Mul(rest, big.NewRat(int64(die.n(9)), int64(1+die.n(8))))
		want, fault := api.Q(""), api.ErrState
		if place := cut(d, from, much); place != nil {
			want, fault = text(place), api.OK
		}
		got, e := share.Cut(d, text(from), text(much))
		if got != want || e != fault {
			t.Fatalf("Cut(%v, %v, %v): %q, error %d, want %q, error %d", d, from, much, got, e, want, fault)
		}
		many[e]++
		if e != api.OK {
			return
		}
		if back, _ := share.Worth(d, text(from), got); rat(back).Cmp(much) != 0 {
			t.Fatalf("Cut(%v, %v, %v): up to %s it is worth %s", d, from, much, got, back)
		}
	})
	if min(many[api.OK], many[api.ErrState]) < 300 {
		t.Errorf("too few of a kind: %v", many)
	}
}

// Beyond all whole kinds of the language nothing may be cut off.
func TestF3Great(t *testing.T) {
	small := api.Q("1/1" + strings.Repeat("0", 200))
	if got, e := share.Worth([]int{3, 5}, small, "1"); got != exact.Sub("3", exact.Mul("3", small)) || e != api.OK {
		t.Errorf("Worth: %q, error %d", got, e)
	}
	if got, e := share.Cut([]int{1, 5}, "1", small); got != exact.Add("1", exact.Mul("1/5", small)) || e != api.OK {
		t.Errorf("Cut: %q, error %d", got, e)
	}
	if got, e := share.Worth([]int{3, 5}, "0", exact.Add("2", small)); got != "" || e != api.ErrValue {
		t.Errorf("Worth: %q, error %d", got, e)
	}
}

func TestF4Halves(t *testing.T) {
	for _, c := range []struct {
		d    [][]int
		want string
	}{
		{[][]int{{2, 0, 4}, {1, 1, 1}}, "9/4 0"}, {[][]int{{1, 1, 1}, {2, 0, 4}}, "3/2 1"}, {[][]int{{5, 3, 1}, {1, 4, 2}}, "9/10 1"}, {[][]int{{1}, {1}}, "1/2 0"}, {[][]int{{1}, {0}}, "1/2 0"}, {[][]int{{1, 1}, {3, 2}}, "1 0"}, {[][]int{{1, 1}, {2, 3}}, "1 1"}, {[][]int{{1, 1}, {2, 2}}, "1 0"},
		// The first place of several; a cake that is worth nothing is cut at once.
		{[][]int{{3, 0, 0, 3}, {1, 1, 1, 1}}, "1 1"}, {[][]int{{0, 0}, {1, 1}}, "0 1"}, {[][]int{{0, 0}, {0, 0}}, "0 0"}, {[][]int{{0, 4}, {0, 0}}, "3/2 0"}, {[][]int{{0, 4}, {1, 0}}, "3/2 0"}, {[][]int{{4, 0}, {0, 1}}, "1/2 1"},
		{[][]int{{1000, 1000, 1000, 1000, 1000, 1000, 1000, 999}, {1000, 1000, 1000, 1000, 1000, 1000, 1000, 999}}, "7999/2000 0"},
	} {
		if got := cakes(c.d)["Halves"]; got != (said{c.want, api.OK}) {
			t.Errorf("Halves(%v): %v, want %s", c.d, got, c.want)
		}
	}
	for _, d := range [][][]int{{{1, 2}}, {{1}, {1}, {1}}, {{1}, {1}, {1}, {1}}, {{0}}} {
		if at, takes, e := share.Halves(d); at != "" || takes != 0 || e != api.ErrCount {
			t.Errorf("Halves(%v): %q %d, error %d", d, at, takes, e)
		}
	}
}

// The guests are counted last: values that may not be are told first.
func TestF4HalvesSaysCakeFirst(t *testing.T) {
	if _, _, e := share.Halves([][]int{{-1}}); e != api.ErrValue {
		t.Errorf("error %d", e)
	}
}

func TestF4HalvesOfDrawn(t *testing.T) {
	many := [2]int{}
	drawn(3000, 1, api.MaxSlices, func(d [][]int) {
		if len(d) != 2 {
			return
		}
		zero, end := new(big.Rat), big.NewRat(int64(len(d[0])), 1)
		place := cut(d[0], zero, new(big.Rat).Mul(worth(d[0], zero, end), big.NewRat(1, 2)))
		want := 0
		if worth(d[1], place, end).Cmp(worth(d[1], zero, place)) > 0 {
			want = 1
		}
		many[want]++
		if at, takes, e := share.Halves(d); at != text(place) || takes != want || e != api.OK {
			t.Fatalf("Halves(%v): %q %d, error %d, want %s %d", d, at, takes, e, text(place), want)
		}
	})
	if min(many[0], many[1]) < 100 {
		t.Errorf("too few of a kind: %v", many)
	}
}

// knife is what Knife is to answer.
func knife(d [][]int) string {
	end := big.NewRat(int64(len(d[0])), 1)
	pieces, had := make([][2]api.Q, len(d)), make([]bool, len(d))
	last := new(big.Rat)
	for k := range d {
		best, at := -1, end
		for i := range d {
			if had[i] {
				continue
			}
			place := cut(d[i], last, new(big.Rat).Mul(worth(d[i], new(big.Rat), end), big.NewRat(1, int64(len(d)))))
			if place == nil || k == len(d)-1 {
				place = end
			}
			if best < 0 || place.Cmp(at) < 0 {
				best, at = i, place
			}
		}
		had[best], pieces[best] = true, [2]api.Q{text(last), text(at)}
		last = at
	}
	return fmt.Sprint(pieces)
}

func TestF4Knife(t *testing.T) {
	for _, c := range []struct {
		d    [][]int
		want string
	}{
		{[][]int{{5, 3, 1}, {1, 4, 2}}, "[[0 9/10] [9/10 3]]"}, {[][]int{{1, 4, 2}, {5, 3, 1}}, "[[9/10 3] [0 9/10]]"}, {[][]int{{7}}, "[[0 1]]"}, {[][]int{{0, 0}}, "[[0 2]]"}, {[][]int{{1, 1}, {1, 1}}, "[[0 1] [1 2]]"}, {[][]int{{1}, {1}, {1}, {1}}, "[[0 1/4] [1/4 1/2] [1/2 3/4] [3/4 1]]"},
		// To whom it is worth nothing has nothing, at once; the last one has the rest all the same.
		{[][]int{{0, 0}, {0, 0}}, "[[0 0] [0 2]]"}, {[][]int{{1, 1}, {0, 0}}, "[[0 2] [0 0]]"}, {[][]int{{0, 0}, {1, 1}}, "[[0 0] [0 2]]"}, {[][]int{{1, 1}, {0, 0}, {1, 1}}, "[[0 2/3] [0 0] [2/3 2]]"},
		{[][]int{{0, 0, 6}, {6, 0, 0}, {0, 6, 0}}, "[[4/3 3] [0 1/3] [1/3 4/3]]"}, {[][]int{{3, 0, 3}, {0, 3, 3}}, "[[0 1] [1 3]]"}, {[][]int{{2, 0, 4}, {1, 1, 1}}, "[[3/2 3] [0 3/2]]"},
		// A piece has what was worth nothing behind the last cut, but none behind its own.
		{[][]int{{2, 0, 0, 2}, {1, 0, 0, 3}}, "[[0 1] [1 4]]"}, {[][]int{{3, 0, 3, 3}, {3, 0, 3, 3}, {3, 0, 3, 3}}, "[[0 1] [1 3] [3 4]]"},
	} {
		if got := cakes(c.d)["Knife"]; got != (said{c.want, api.OK}) {
			t.Errorf("Knife(%v): %v, want %s", c.d, got, c.want)
		}
	}
}

func TestF4KnifeOfDrawn(t *testing.T) {
	drawn(1500, 1, api.MaxSlices, func(d [][]int) {
		got, e := share.Knife(d)
		if want := knife(d); fmt.Sprint(got) != want || e != api.OK {
			t.Fatalf("Knife(%v): %v, error %d, want %s", d, got, e, want)
		}
	})
}

// What follows from F4: each has at least its part.
func TestF4WhatFollows(t *testing.T) {
	drawn(1000, 1, api.MaxSlices, func(d [][]int) {
		end := big.NewRat(int64(len(d[0])), 1)
		least := func(i int, from, to *big.Rat) {
			part := new(big.Rat).Mul(worth(d[i], new(big.Rat), end), big.NewRat(1, int64(len(d))))
			if worth(d[i], from, to).Cmp(part) < 0 {
				t.Fatalf("%v: the guest %d has too little from %v to %v", d, i, from, to)
			}
		}
		pieces, _ := share.Knife(d)
		for i, piece := range pieces {
			least(i, rat(piece[0]), rat(piece[1]))
		}
		if len(d) == 2 {
			at, takes, _ := share.Halves(d)
			two := [2][2]*big.Rat{{new(big.Rat), rat(at)}, {rat(at), end}}
			least(0, two[1-takes][0], two[1-takes][1])
			least(1, two[takes][0], two[takes][1])
		}
	})
}

func TestX2FreshPieces(t *testing.T) {
	drawn(50, 1, api.MaxSlices, func(d [][]int) {
		first, _ := share.Knife(d)
		before := fmt.Sprint(first)
		other, _ := share.Knife(d)
		for i := range other {
			other[i] = [2]api.Q{"7", "7"}
		}
		if after := fmt.Sprint(first); after != before {
			t.Fatalf("Knife(%v): %s, was %s", d, after, before)
		}
	})
}
