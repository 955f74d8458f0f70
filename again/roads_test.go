package again_test

import (
	"fmt"
	"math"
	"slices"
	"testing"

	"agora/again"
	"agora/api"
)

// filled is where all players are.
type filled struct {
	r  api.Roads
	at []int
}

// drawnRoads calls f with roads of all kinds: none, many ties, costs that rise or fall, or below 0.
func drawnRoads(many int, f func(p filled)) {
	d := die(43)
	for i := range many {
		players, roads, most := 1+d.n(api.MaxPlayers), d.n(api.MaxRoads+1), []int{1, 4, 12, api.MaxPay}[i%4]
		var p filled
		for range roads {
			costs := d.list(players, -most, most)
			if d.n(2) == 0 {
				slices.Sort(costs)
			}
			p.r.Costs = append(p.r.Costs, costs)
		}
		for range players {
			l := d.list(1+d.n(api.MaxMoves), 0, 1<<roads-1)
			p.r.Choices, p.at = append(p.r.Choices, l), append(p.at, d.n(len(l)))
		}
		f(p)
	}
}

// two are two players, each of whom may take the road 1 or the road 2.
var two = api.Roads{Choices: [][]int{{1, 2}, {1, 2}}, Costs: [][]int{{1, 4}, {3, 3}}}

// walks are all calls that are asked where all are.
func walks(p filled) map[string]said {
	a, e := again.Cost(p.r, p.at)
	b, f := again.Height(p.r, p.at)
	c, g := again.Settle(p.r, p.at)
	return map[string]said{"Cost": {fmt.Sprint(a), e}, "Height": {fmt.Sprint(b), f}, "Settle": {fmt.Sprint(c), g}}
}

// stopped says whether all calls answer an error, and nothing else.
func stopped(t *testing.T, p filled, want api.Errno) {
	t.Helper()
	got := walks(p)
	for name, empty := range map[string]string{"Cost": "[]", "Height": "0", "Settle": "[]"} {
		if got[name] != (said{empty, want}) {
			t.Errorf("%s(%v): %v, want error %d", name, p, got[name], want)
		}
	}
}

func TestA3Roads(t *testing.T) {
	five := slices.Repeat([][]int{{0, 1, 2, 3, 63}}, api.MaxPlayers)
	for _, r := range []api.Roads{
		two, {Choices: [][]int{{0}}}, {Choices: [][]int{{0, 0, 0, 0, 0}}, Costs: [][]int{}}, {Choices: [][]int{{0}, {0}, {0}, {0}, {0}}}, {Choices: [][]int{{0, 1}}, Costs: [][]int{{0}}}, {Choices: [][]int{{1}}, Costs: [][]int{{api.MaxPay}}}, {Choices: [][]int{{1}}, Costs: [][]int{{-api.MaxPay}}},
		{Choices: five, Costs: slices.Repeat([][]int{{1, 2, 3, -999, 999}}, api.MaxRoads)}, {Choices: [][]int{{0}, {3}}, Costs: [][]int{{5, 1}, {0, 0}}},
	} {
		if e := again.Roads(r); e != api.OK {
			t.Errorf("Roads(%v): error %d", r, e)
		}
	}
	drawnRoads(500, func(p filled) {
		if e := again.Roads(p.r); e != api.OK {
			t.Fatalf("Roads(%v): error %d", p.r, e)
		}
	})
}

// wrongRoads are roads that may not be.
func wrongRoads() map[api.Errno][]api.Roads {
	one, great := [][]int{{0}}, api.MaxPay+1
	return map[api.Errno][]api.Roads{
		api.ErrCount: {
			{}, {Choices: [][]int{}}, {Costs: [][]int{{}}}, {Costs: [][]int{{1}}}, {Choices: slices.Repeat(one, 6)}, {Choices: make([][]int, 70000)}, {Choices: one, Costs: slices.Repeat([][]int{{1}}, 7)}, {Choices: one, Costs: make([][]int, 70000)},
			{Choices: one, Costs: [][]int{{}}}, {Choices: one, Costs: [][]int{nil}}, {Choices: one, Costs: [][]int{{1, 2}}}, {Choices: one, Costs: [][]int{{1}, {1, 2}}}, {Choices: [][]int{{0}, {0}}, Costs: [][]int{{1, 2}, {1}}}, {Choices: [][]int{{0}, {0}}, Costs: [][]int{{1, 2, 3}}},
			{Choices: [][]int{{}}}, {Choices: [][]int{nil}}, {Choices: [][]int{{0}, {}}}, {Choices: [][]int{make([]int, 6)}}, {Choices: [][]int{{0}, make([]int, 6)}}, {Choices: [][]int{make([]int, 70000)}},
			{Choices: slices.Repeat([][]int{{9}}, 6), Costs: [][]int{{great}}}, {Choices: [][]int{{9}}, Costs: slices.Repeat([][]int{{great}}, 7)}, // how many there are is ahead of all
			{Choices: one, Costs: [][]int{{great, 0}}}, {Choices: [][]int{{0}, {0}}, Costs: [][]int{{great}}}, {Choices: one, Costs: [][]int{{}, {great}}}, {Choices: [][]int{{-1}}, Costs: [][]int{{}}}, // of one road how many ahead of which; the first road ahead of the second one, and all of them of the players
			{Choices: [][]int{{9, 9, 9, 9, 9, 9}}}, {Choices: [][]int{{}, {9}}},
		},
		api.ErrValue: {
			{Choices: one, Costs: [][]int{{great}}}, {Choices: one, Costs: [][]int{{-great}}}, {Choices: one, Costs: [][]int{{math.MaxInt}}}, {Choices: one, Costs: [][]int{{math.MinInt}}}, {Choices: [][]int{{0}, {0}}, Costs: [][]int{{0, 0}, {0, great}}}, {Choices: [][]int{{0}, {0}}, Costs: [][]int{{0, 0}, {-great, 0}}},
			{Choices: one, Costs: [][]int{{great}, {}}}, {Choices: [][]int{{}}, Costs: [][]int{{great}}}, {Choices: [][]int{{9}}, Costs: [][]int{{-great}}},
		},
		api.ErrWho: {
			{Choices: [][]int{{1}}}, {Choices: [][]int{{-1}}}, {Choices: [][]int{{0, 2}}, Costs: [][]int{{1}}}, {Choices: [][]int{{0, 3}}, Costs: [][]int{{1}}}, {Choices: [][]int{{0}, {0, 1, 4}}, Costs: [][]int{{1, 2}, {1, 2}}}, {Choices: [][]int{{64}}, Costs: slices.Repeat([][]int{{1}}, 6)}, {Choices: [][]int{{-1}}, Costs: slices.Repeat([][]int{{1}}, 6)}, {Choices: [][]int{{math.MinInt}}}, {Choices: [][]int{{0, math.MaxInt}}, Costs: [][]int{{1}}}, {Choices: [][]int{{1 << 32}}, Costs: [][]int{{1}}},
			{Choices: [][]int{{1}, {}}}, {Choices: [][]int{{0, -1}, make([]int, 6)}}, // the first player ahead of the second one
		},
	}
}

func TestA3RoadsNot(t *testing.T) {
	for want, l := range wrongRoads() {
		for _, r := range l {
			if e := again.Roads(r); e != want {
				t.Errorf("Roads(%v): error %d, want %d", r, e, want)
			}
			for _, at := range [][]int{nil, {0}, {-1}, {9, 9}, make([]int, 70000)} {
				stopped(t, filled{r, at}, want)
			}
		}
	}
}

func TestA3WhereAllAre(t *testing.T) {
	r := api.Roads{Choices: [][]int{{1, 2}, {0, 1, 3}}, Costs: [][]int{{1, 4}, {3, 3}}}
	for want, l := range map[api.Errno][][]int{
		api.ErrCount: {nil, {}, {0}, {0, 0, 0}, {9}, {-1, 0, 0}, make([]int, 70000)},
		api.ErrValue: {{2, 0}, {-1, 0}, {0, 3}, {0, -1}, {math.MaxInt, 0}, {0, math.MinInt}, {2, 2}},
	} {
		for _, at := range l {
			stopped(t, filled{r, at}, want)
		}
	}
	for _, at := range [][]int{{0, 0}, {1, 2}, {0, 2}, {1, 0}} {
		for name, got := range walks(filled{r, at}) {
			if got.e != api.OK {
				t.Errorf("%s(%v, %v): error %d", name, r, at, got.e)
			}
		}
	}
}

func TestA4Known(t *testing.T) {
	three := api.Roads{Choices: [][]int{{1, 2}, {1, 2}, {3}}, Costs: [][]int{{1, 2, 9}, {2, 3, 4}}}
	for _, c := range []struct {
		p                    filled
		cost, height, settle string
	}{
		{filled{two, []int{0, 0}}, "[4 4]", "5", "[[0 0] [1 0]]"},
		{filled{two, []int{1, 1}}, "[3 3]", "6", "[[1 1] [0 1]]"},
		{filled{two, []int{0, 1}}, "[1 3]", "4", "[[0 1]]"},
		{filled{two, []int{1, 0}}, "[3 1]", "4", "[[1 0]]"},
		{filled{api.Roads{Choices: [][]int{{0}}}, []int{0}}, "[0]", "0", "[[0]]"},
		{filled{api.Roads{Choices: [][]int{{0, 0, 0}, {0}}}, []int{2, 0}}, "[0 0]", "0", "[[2 0]]"},
		{filled{api.Roads{Choices: [][]int{{0, 1}}, Costs: [][]int{{-5}}}, []int{0}}, "[0]", "0", "[[0] [1]]"},
		{filled{api.Roads{Choices: [][]int{{1, 2, 4, 4}}, Costs: [][]int{{5}, {3}, {3}}}, []int{0}}, "[5]", "5", "[[0] [1]]"},      // of several the first
		{filled{api.Roads{Choices: [][]int{{1, 2, 4, 8}}, Costs: [][]int{{5}, {3}, {2}, {2}}}, []int{0}}, "[5]", "5", "[[0] [2]]"}, // the least, not the first that is less
		{filled{api.Roads{Choices: [][]int{{1, 2}}, Costs: [][]int{{3}, {3}}}, []int{1}}, "[3]", "3", "[[1]]"},                     // who pays the least stays
		{filled{api.Roads{Choices: [][]int{{1, 2, 3}}, Costs: [][]int{{3}, {-4}}}, []int{2}}, "[-1]", "-1", "[[2] [1]]"},           // several roads, together
		{filled{three, []int{0, 0, 0}}, "[9 9 11]", "14", "[[0 0 0] [1 0 0]]"},
		{filled{three, []int{1, 1, 0}}, "[4 4 5]", "10", "[[1 1 0] [0 1 0]]"},
		{filled{api.Roads{Choices: [][]int{{1}, {1}, {1}, {1}, {1}}, Costs: [][]int{{1, 10, 100, 500, 999}}}, make([]int, 5)}, "[999 999 999 999 999]", "1610", "[[0 0 0 0 0]]"},
	} {
		for name, want := range map[string]string{"Cost": c.cost, "Height": c.height, "Settle": c.settle} {
			if got := walks(c.p)[name]; got != (said{want, api.OK}) {
				t.Errorf("%s(%v): %v, want %s", name, c.p, got, want)
			}
		}
	}
}

// users are those who take a road.
func users(p filled, road int) []int {
	var l []int
	for player, choice := range p.at {
		if p.r.Choices[player][choice]&(1<<road) != 0 {
			l = append(l, player)
		}
	}
	return l
}

// pays is what roads cost each player, road by road.
func pays(p filled) []int {
	l := make([]int, len(p.at))
	for road, costs := range p.r.Costs {
		who := users(p, road)
		for _, player := range who {
			l[player] += costs[len(who)-1]
		}
	}
	return l
}

// high is each road's cost for one, for two, .., for as many as take it.
func high(p filled) int {
	sum := 0
	for road, costs := range p.r.Costs {
		for many := range users(p, road) {
			sum += costs[many]
		}
	}
	return sum
}

// gone is where all are if one player makes another choice.
func gone(p filled, player, choice int) filled {
	p.at = slices.Clone(p.at)
	p.at[player] = choice
	return p
}

func TestA4CostAndHeightOfDrawn(t *testing.T) {
	drawnRoads(1500, func(p filled) {
		got := walks(p)
		if want := (said{fmt.Sprint(pays(p)), api.OK}); got["Cost"] != want {
			t.Fatalf("Cost(%v): %v, want %v", p, got["Cost"], want)
		}
		if want := (said{fmt.Sprint(high(p)), api.OK}); got["Height"] != want {
			t.Fatalf("Height(%v): %v, want %v", p, got["Height"], want)
		}
	})
}

// settled is where the first player that can pay less goes, again and again.
func settled(p filled) [][]int {
	all := [][]int{p.at}
	for player := 0; player < len(p.at); player++ {
		var l []int
		for choice := range p.r.Choices[player] {
			l = append(l, pays(gone(p, player, choice))[player])
		}
		if least := slices.Min(l); least < l[p.at[player]] {
			p = gone(p, player, slices.Index(l, least))
			all = append(all, p.at)
			player = -1 // from the first one on again
		}
	}
	return all
}

func TestA4SettleOfDrawn(t *testing.T) {
	longest := 0
	drawnRoads(1500, func(p filled) {
		got, e := again.Settle(p.r, p.at)
		if want := settled(p); fmt.Sprint(got) != fmt.Sprint(want) || e != api.OK {
			t.Fatalf("Settle(%v): %v, error %d, want %v", p, got, e, want)
		}
		longest = max(longest, len(got))
	})
	if longest < 8 {
		t.Errorf("no way was longer than %d", longest)
	}
}

// What follows from A4: when one player changes its choice, Height changes by as much as its Cost; so Settle goes down, and where it ends nobody can pay less.
func TestA4WhatFollows(t *testing.T) {
	drawnRoads(400, func(p filled) {
		before, _ := again.Cost(p.r, p.at)
		height, _ := again.Height(p.r, p.at)
		for player, choices := range p.r.Choices {
			for choice := range choices {
				q := gone(p, player, choice)
				after, _ := again.Cost(q.r, q.at)
				other, _ := again.Height(q.r, q.at)
				if other-height != after[player]-before[player] {
					t.Fatalf("%v: to %d of the player %d: Height %d, then %d; Cost %v, then %v", p, choice, player, height, other, before, after)
				}
			}
		}
		all, _ := again.Settle(p.r, p.at)
		for _, at := range all[1:] {
			now, _ := again.Height(p.r, at)
			if now >= height {
				t.Fatalf("Settle(%v): %v does not go down", p, all)
			}
			height = now
		}
		if last, _ := again.Settle(p.r, all[len(all)-1]); len(last) != 1 {
			t.Fatalf("Settle(%v): %v, and then %v", p, all, last)
		}
	})
}

func TestX2RoadsAreNotWrittenInto(t *testing.T) {
	drawnRoads(300, func(p filled) {
		before := fmt.Sprint(p)
		cost, _ := again.Cost(p.r, p.at)
		all, _ := again.Settle(p.r, p.at)
		answer := fmt.Sprint(cost, all)
		otherCost, _ := again.Cost(p.r, p.at)
		other, _ := again.Settle(p.r, p.at)
		if fmt.Sprint(otherCost, other) != answer {
			t.Fatalf("%v: %s, then %v %v", p, answer, otherCost, other)
		}
		for i := range otherCost {
			otherCost[i] = -7
		}
		for i := range other {
			rest := fmt.Sprint(other[i+1:])
			for k := range other[i] {
				other[i][k] = -7
			}
			_ = append(other[i], -7)
			if fmt.Sprint(other[i+1:]) != rest {
				t.Fatalf("Settle(%v): lists share memory", p)
			}
		}
		if fmt.Sprint(cost, all) != answer || fmt.Sprint(p) != before {
			t.Fatalf("%s: an answer shares memory, or what was handed in was written into", before)
		}
	})
}
