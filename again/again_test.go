package again_test

import (
	"fmt"
	"math"
	"math/big"
	"slices"
	"strings"
	"testing"

	"agora/again"
	"agora/api"
)

// die draws numbers that look drawn, the same each time.
type die uint64

func (d *die) n(most int) int {
	*d = *d*6364136223846793005 + 1442695040888963407
	return int(uint64(*d>>33) % uint64(most))
}

// list draws n numbers from least to most.
func (d *die) list(n, least, most int) []int {
	l := make([]int, n)
	for i := range l {
		l[i] = least + d.n(most-least+1)
	}
	return l
}

// table draws what is paid, for so many moves of both.
func (d *die) table(rows, cols, most int) [][]int {
	var a [][]int
	for range rows {
		a = append(a, d.list(cols, -most, most))
	}
	return a
}

// machine draws one of at most so many states.
func (d *die) machine(own, other, most int) api.Machine {
	n := 1 + d.n(most)
	m := api.Machine{Start: d.n(n), Moves: d.list(n, 0, own-1)}
	for range n {
		m.Next = append(m.Next, d.list(other, 0, n-1))
	}
	return m
}

// repeated is what a game is played by again and again.
type repeated struct {
	g             api.Game
	d             api.Q
	first, second api.Machine
}

// rates are how much a round counts by the one ahead of it.
var rates = []api.Q{"0", "1/8", "1/3", "1/2", "2/3", "7/8", "99/100", "4/6"}

// drawn calls f with games and machines of all kinds: many ties, great payments; of at most so many moves and states.
func drawn(many, moves, states int, f func(p repeated)) {
	d := die(16)
	for i := range many {
		rows, cols, most := 1+d.n(moves), 1+d.n(moves), []int{1, 3, 9, api.MaxPay}[i%4]
		g := api.Game{A: d.table(rows, cols, most), B: d.table(rows, cols, most)}
		f(repeated{g, rates[d.n(len(rates))], d.machine(rows, cols, states), d.machine(cols, rows, states)})
	}
}

func rat(q api.Q) *big.Rat {
	r, ok := new(big.Rat).SetString(string(q))
	if !ok {
		panic("no fraction: " + string(q))
	}
	return r
}

func text(r *big.Rat) api.Q { return api.Q(r.RatString()) }

// plus is what a round pays, and d times what is behind it.
func plus(pays int, d, behind *big.Rat) *big.Rat {
	r := new(big.Rat).Mul(d, behind)
	return r.Add(r, big.NewRat(int64(pays), 1))
}

// cloned is a machine with lists of its own.
func cloned(m api.Machine) api.Machine {
	c := api.Machine{Start: m.Start, Moves: slices.Clone(m.Moves)}
	for _, next := range m.Next {
		c.Next = append(c.Next, slices.Clone(next))
	}
	return c
}

// from is a machine that begins elsewhere.
func from(m api.Machine, start int) api.Machine {
	m.Start = start
	return m
}

// turned lets the players change places.
func turned(g api.Game) api.Game {
	turn := func(a [][]int) [][]int {
		t := make([][]int, len(a[0]))
		for _, row := range a {
			for j, pays := range row {
				t[j] = append(t[j], pays)
			}
		}
		return t
	}
	return api.Game{A: turn(g.B), B: turn(g.A)}
}

// always is a machine that makes one move, whatever the other one, which has so many, does.
func always(move, other int) api.Machine {
	return api.Machine{Moves: []int{move}, Next: [][]int{make([]int, other)}}
}

// The game of those who are good (0) or bad (1), and machines of it.
var (
	dilemma = api.Game{A: [][]int{{3, 0}, {5, 1}}, B: [][]int{{3, 5}, {0, 1}}}
	grim    = api.Machine{Moves: []int{0, 1}, Next: [][]int{{0, 1}, {1, 1}}}
	likeYou = api.Machine{Moves: []int{0, 1}, Next: [][]int{{0, 1}, {0, 1}}}
	bad     = always(1, 2)
	good    = always(0, 2)
)

func TestA1May(t *testing.T) {
	five := [][]int{{0}, {1}, {2}, {3}, {4}}
	for _, c := range []struct {
		m          api.Machine
		own, other int
	}{
		{good, 2, 2}, {bad, 2, 2}, {grim, 2, 2}, {likeYou, 2, 2}, {grim, 3, 2}, {grim, math.MaxInt, 2}, {always(0, 1), 1, 1}, {always(4, 5), 5, 5},
		{api.Machine{Moves: []int{0}, Next: [][]int{{}}}, 1, 0}, {api.Machine{Moves: []int{0}, Next: [][]int{nil}}, 1, 0},
		{api.Machine{Start: 4, Moves: []int{0, 1, 2, 3, 4}, Next: five}, 5, 1}, {api.Machine{Moves: []int{4, 4, 4, 4, 4}, Next: five}, 5, 1},
		{always(0, 70000), 1, 70000},
	} {
		if e := again.May(c.m, c.own, c.other); e != api.OK {
			t.Errorf("May(%v, %d, %d): error %d", c.m, c.own, c.other, e)
		}
	}
	drawn(500, api.MaxMoves, api.MaxStates, func(p repeated) {
		if e := again.May(p.first, len(p.g.A), len(p.g.A[0])); e != api.OK {
			t.Fatalf("May(%v, %d, %d): error %d", p.first, len(p.g.A), len(p.g.A[0]), e)
		}
	})
}

// wrongMachines are machines that may not be, where both have two moves.
func wrongMachines() map[api.Errno][]api.Machine {
	next := [][]int{{0, 1}, {1, 0}}
	return map[api.Errno][]api.Machine{
		api.ErrCount: {
			{}, {Moves: []int{}, Next: [][]int{}}, {Next: [][]int{{0, 0}}}, {Moves: []int{0}}, {Moves: []int{0, 0}, Next: next[:1]}, {Moves: []int{0}, Next: next},
			{Moves: make([]int, 6), Next: slices.Repeat([][]int{{0, 0}}, 6)}, {Moves: make([]int, 5), Next: slices.Repeat([][]int{{0, 0}}, 6)}, {Moves: make([]int, 6), Next: slices.Repeat([][]int{{0, 0}}, 5)},
			{Moves: make([]int, 70000), Next: make([][]int, 70000)},
			{Moves: []int{0, 0}, Next: [][]int{{0}, {0, 0}}}, {Moves: []int{0, 0}, Next: [][]int{{0, 0}, {0, 0, 0}}}, {Moves: []int{0, 0}, Next: [][]int{{0, 0}, nil}}, {Moves: []int{0}, Next: [][]int{make([]int, 70000)}},
			{Moves: []int{-1}, Next: next}, {Moves: []int{9, 9}, Next: next[:1]}, {Start: 9, Moves: []int{0}}, {Start: -1}, // the number of states is ahead of all
			{Moves: []int{0, 0}, Next: [][]int{{9}, {0, 0}}}, {Moves: []int{0, 0}, Next: [][]int{{-1, -1, -1}, {0, 0}}}, // of one state: how many ahead of which
			{Moves: []int{0, 9}, Next: [][]int{{0}, {0, 0}}}, {Start: 9, Moves: []int{0, 0}, Next: [][]int{{0, 0}, {0}}}, // the first state ahead of the second one, and of Start
		},
		api.ErrValue: {
			{Moves: []int{-1}, Next: [][]int{{0, 0}}}, {Moves: []int{2}, Next: [][]int{{0, 0}}}, {Moves: []int{0, 2}, Next: next}, {Moves: []int{0, -1}, Next: next}, {Moves: []int{math.MinInt, 0}, Next: next}, {Moves: []int{0, math.MaxInt}, Next: next},
			{Moves: []int{2}, Next: [][]int{{0}}}, {Moves: []int{2}, Next: [][]int{{0, 9}}}, {Moves: []int{-1}, Next: [][]int{nil}}, // of one state: the move first
			{Moves: []int{2, 0}, Next: [][]int{{0, 0}, {0}}}, {Moves: []int{2, 0}, Next: [][]int{{0, 0}, {0, 9}}}, {Start: 2, Moves: []int{0, 2}, Next: next},
		},
		api.ErrWho: {
			{Moves: []int{0}, Next: [][]int{{0, 1}}}, {Moves: []int{0}, Next: [][]int{{-1, 0}}}, {Moves: []int{0, 0}, Next: [][]int{{0, 1}, {1, 2}}}, {Moves: []int{0, 0}, Next: [][]int{{0, 1}, {-1, 0}}}, {Moves: []int{0}, Next: [][]int{{0, math.MaxInt}}}, {Moves: []int{0}, Next: [][]int{{math.MinInt, 0}}},
			{Start: 2, Moves: []int{0, 1}, Next: next}, {Start: -1, Moves: []int{0, 1}, Next: next}, {Start: math.MaxInt, Moves: []int{0, 1}, Next: next}, {Start: math.MinInt, Moves: []int{0, 1}, Next: next}, {Start: 1, Moves: []int{0}, Next: [][]int{{0, 0}}},
			{Moves: []int{0, 2}, Next: [][]int{{0, 2}, {0, 0}}}, {Moves: []int{0, 0}, Next: [][]int{{0, 2}, {0}}}, // the first state ahead of the second one
		},
	}
}

func TestA1MayNot(t *testing.T) {
	for want, l := range wrongMachines() {
		for _, m := range l {
			if e := again.May(m, 2, 2); e != want {
				t.Errorf("May(%v, 2, 2): error %d, want %d", m, e, want)
			}
		}
	}
	for _, c := range []struct {
		own, other int
		want       api.Errno
	}{
		{1, 2, api.ErrValue}, {0, 2, api.ErrValue}, {-1, 2, api.ErrValue}, {math.MinInt, math.MinInt, api.ErrValue}, {0, 0, api.ErrValue},
		{2, 1, api.ErrCount}, {2, 3, api.ErrCount}, {2, 0, api.ErrCount}, {2, -1, api.ErrCount}, {2, math.MaxInt, api.ErrCount}, {math.MaxInt, math.MinInt, api.ErrCount},
		{1, 3, api.ErrCount}, // the first state makes the move 0, so its Next comes ahead of the second one's move
	} {
		if e := again.May(grim, c.own, c.other); e != c.want {
			t.Errorf("May(%v, %d, %d): error %d, want %d", grim, c.own, c.other, e, c.want)
		}
	}
}

// said is what a call answers, as a text, and its error.
type said struct {
	text string
	e    api.Errno
}

// calls are all of them that are asked of a game, a rate and machines.
func calls(p repeated) map[string]said {
	a, b, e := again.Worth(p.g, p.d, p.first, p.second)
	ok, f := again.Calm(p.g, p.d, p.first, p.second)
	r, h := again.Reply(p.g, p.d, p.second)
	return map[string]said{"Worth": {fmt.Sprintf("%q %q", a, b), e}, "Calm": {fmt.Sprint(ok), f}, "Reply": {fmt.Sprint(r), h}}
}

// nothing is what they answer beside an error.
var nothing = map[string]string{"Worth": `"" ""`, "Calm": "false", "Reply": "{0 [] []}"}

// refused says whether calls answer an error, and nothing else.
func refused(t *testing.T, p repeated, want api.Errno, names ...string) {
	t.Helper()
	got := calls(p)
	for _, name := range names {
		if got[name] != (said{nothing[name], want}) {
			t.Errorf("%s(%v): %v, want error %d", name, p, got[name], want)
		}
	}
}

func TestA2WhatIsSaidFirst(t *testing.T) {
	all := []string{"Worth", "Calm", "Reply"}
	wrong := api.Machine{Start: -1}
	for want, l := range map[api.Errno][]api.Game{
		api.ErrCount: {{}, {A: dilemma.A}, {B: dilemma.B}, {A: [][]int{{}}, B: [][]int{{}}}, {A: [][]int{{1, 2}}, B: dilemma.B}, {A: make([][]int, 6), B: make([][]int, 6)}, {A: [][]int{{1, 2}, {3}}, B: dilemma.B}, {A: dilemma.A, B: [][]int{{1}, {2}}}},
		api.ErrValue: {{A: [][]int{{api.MaxPay + 1}}, B: [][]int{{0}}}, {A: [][]int{{0}}, B: [][]int{{-api.MaxPay - 1}}}, {A: [][]int{{math.MinInt, 0}, {0, 0}}, B: [][]int{{0}}}},
	} {
		for _, g := range l {
			for _, d := range []api.Q{"1/2", "1", "-1"} {
				refused(t, repeated{g, d, grim, grim}, want, all...)
				refused(t, repeated{g, d, wrong, wrong}, want, all...)
			}
		}
	}
	for _, d := range []api.Q{"1", "-1", "2", "9/8", "8/8", "-1/8", "-0001/1000000", "1000001/1000000", "-9/8", "001", api.Q(strings.Repeat("9", 400))} {
		refused(t, repeated{dilemma, d, grim, grim}, api.ErrValue, all...)
		refused(t, repeated{dilemma, d, wrong, wrong}, api.ErrValue, all...)
	}
}

// Which machine is wrong shows by the error, since the two are of different ones.
func TestA2MachinesInOrder(t *testing.T) {
	for want, l := range wrongMachines() {
		for _, m := range l {
			refused(t, repeated{dilemma, "1/2", m, grim}, want, "Worth", "Calm")
			refused(t, repeated{dilemma, "1/2", grim, m}, want, "Worth", "Calm", "Reply")
			for other, ms := range wrongMachines() {
				refused(t, repeated{dilemma, "1/2", m, ms[0]}, want, "Worth", "Calm")
				refused(t, repeated{dilemma, "1/2", m, ms[0]}, other, "Reply")
			}
		}
	}
	// The players have not the same number of moves: own and other are changed for the second one.
	g := api.Game{A: [][]int{{1, 2, 3}, {4, 5, 6}}, B: [][]int{{0, 0, 0}, {0, 0, 0}}}
	refused(t, repeated{g, "0", always(2, 3), always(0, 2)}, api.ErrValue, "Worth", "Calm")
	refused(t, repeated{g, "0", always(1, 2), always(0, 2)}, api.ErrCount, "Worth", "Calm")
	refused(t, repeated{g, "0", always(1, 3), always(3, 2)}, api.ErrValue, "Worth", "Calm", "Reply")
	refused(t, repeated{g, "0", always(1, 3), always(2, 3)}, api.ErrCount, "Worth", "Calm", "Reply")
	if a, b, e := again.Worth(g, "0", always(1, 3), always(2, 2)); a != "6" || b != "0" || e != api.OK {
		t.Errorf("Worth(%v): %q %q, error %d", g, a, b, e)
	}
}

func TestA2Worth(t *testing.T) {
	for _, c := range []struct {
		d             api.Q
		first, second api.Machine
		a, b          api.Q
	}{
		{"1/2", grim, grim, "6", "6"}, {"0", grim, grim, "3", "3"}, {"2/5", grim, grim, "5", "5"}, {"999/1000", grim, grim, "3000", "3000"},
		{"1/2", bad, grim, "6", "1"}, {"2/5", bad, grim, "17/3", "2/3"}, {"0", bad, grim, "5", "0"}, {"1/2", grim, bad, "1", "6"}, {"1/2", bad, bad, "2", "2"}, {"1/2", good, bad, "0", "10"},
		{"1/2", from(likeYou, 1), likeYou, "20/3", "10/3"}, {"1/2", likeYou, from(likeYou, 1), "10/3", "20/3"}, {"2/3", from(likeYou, 1), likeYou, "9", "6"}, {"1/2", likeYou, likeYou, "6", "6"},
		{"", bad, grim, "5", "0"}, {"x", bad, grim, "5", "0"}, {"0.5", bad, grim, "5", "0"}, {"1/0", bad, grim, "5", "0"}, {"-0", bad, grim, "5", "0"}, {"2/4", bad, grim, "6", "1"}, {"005/0010", bad, grim, "6", "1"},
	} {
		if a, b, e := again.Worth(dilemma, c.d, c.first, c.second); a != c.a || b != c.b || e != api.OK {
			t.Errorf("Worth(%s, %v, %v): %q %q, error %d, want %s %s", c.d, c.first, c.second, a, b, e, c.a, c.b)
		}
	}
}

// Wherever both begin, what they get is what the round pays, and d times what they get from where they are then on; as d is below 1, no other numbers are so.
func TestA2WorthOfDrawn(t *testing.T) {
	drawn(400, api.MaxMoves, api.MaxStates, func(p repeated) {
		d := rat(p.d)
		worth := func(i, j int) (a, b api.Q) {
			a, b, e := again.Worth(p.g, p.d, from(p.first, i), from(p.second, j))
			if e != api.OK {
				t.Fatalf("Worth(%v) from %d, %d: error %d", p, i, j, e)
			}
			return a, b
		}
		for i, x := range p.first.Moves {
			for j, y := range p.second.Moves {
				a, b := worth(i, j)
				nextA, nextB := worth(p.first.Next[i][y], p.second.Next[j][x])
				wantA, wantB := text(plus(p.g.A[x][y], d, rat(nextA))), text(plus(p.g.B[x][y], d, rat(nextB)))
				if a != wantA || b != wantB {
					t.Fatalf("Worth(%v) from %d, %d: %s %s, want %s %s", p, i, j, a, b, wantA, wantB)
				}
			}
		}
	})
}

// A long way until all comes again: 20 rounds.
func TestA2WorthOfALongWay(t *testing.T) {
	g := api.Game{A: [][]int{{1}}, B: [][]int{{-999}}}
	five := api.Machine{Moves: make([]int, 5), Next: [][]int{{1}, {2}, {3}, {4}, {0}}}
	four := api.Machine{Moves: make([]int, 4), Next: [][]int{{1}, {2}, {3}, {0}}}
	for _, c := range []struct{ d, a, b api.Q }{{"1/2", "2", "-1998"}, {"0", "1", "-999"}, {"9/10", "10", "-9990"}, {"999999/1000000", "1000000", "-999000000"}} {
		if a, b, e := again.Worth(g, c.d, five, four); a != c.a || b != c.b || e != api.OK {
			t.Errorf("Worth(%s): %q %q, error %d, want %s %s", c.d, a, b, e, c.a, c.b)
		}
	}
}

// gets is what the first player gets by choices, each made in a state of the other one: rounds enough to be where all comes again, then once round, and the rest of it.
func gets(a [][]int, d *big.Rat, other api.Machine, choices []int) *big.Rat {
	const many = api.MaxStates
	at := other.Start
	var pays []int
	step := func() {
		pays = append(pays, a[choices[at]][other.Moves[at]])
		at = other.Next[at][choices[at]]
	}
	for range many {
		step()
	}
	once, turn := at, 0
	for step(); at != once; step() {
	}
	turn = len(pays) - many
	left := big.NewRat(1, 1)
	for range turn {
		left.Mul(left, d)
	}
	sum := new(big.Rat)
	for _, pay := range slices.Backward(pays[many:]) {
		sum = plus(pay, d, sum)
	}
	sum.Quo(sum, left.Sub(big.NewRat(1, 1), left))
	for _, pay := range slices.Backward(pays[:many]) {
		sum = plus(pay, d, sum)
	}
	return sum
}

// most is what the first player gets by the best of all choices. No machine gets more than the best of these: what the other one will do hangs on its state alone.
func most(a [][]int, d *big.Rat, other api.Machine) *big.Rat {
	var best *big.Rat
	choices := make([]int, len(other.Moves))
	for {
		if now := gets(a, d, other, choices); best == nil || now.Cmp(best) > 0 {
			best = now
		}
		i := 0
		for ; i < len(choices) && choices[i] == len(a)-1; i++ {
			choices[i] = 0
		}
		if i == len(choices) {
			return best
		}
		choices[i]++
	}
}

// replied is what the first player gets by the machine that Reply gives, which must be one.
func replied(t *testing.T, p repeated) api.Q {
	t.Helper()
	r, e := again.Reply(p.g, p.d, p.second)
	if e != api.OK || len(r.Moves) != len(p.second.Moves) {
		t.Fatalf("Reply(%v): %v, error %d", p, r, e)
	}
	if e := again.May(r, len(p.g.A), len(p.g.A[0])); e != api.OK {
		t.Fatalf("Reply(%v): %v may not be: error %d", p, r, e)
	}
	a, _, _ := again.Worth(p.g, p.d, r, p.second)
	return a
}

func TestA2Reply(t *testing.T) {
	for _, c := range []struct {
		d     api.Q
		other api.Machine
		want  api.Q
	}{
		{"1/2", grim, "6"}, {"2/5", grim, "17/3"}, {"0", grim, "5"}, {"99/100", grim, "300"}, {"1/2", good, "10"}, {"1/2", bad, "2"}, {"1/2", from(grim, 1), "2"},
		{"1/2", likeYou, "20/3"}, {"2/3", likeYou, "9"}, {"3/4", likeYou, "12"}, {"1/3", likeYou, "45/8"}, {"1/5", likeYou, "21/4"}, {"1/4", likeYou, "16/3"}, {"3/4", from(likeYou, 1), "9"}, {"", likeYou, "5"},
	} {
		if got := replied(t, repeated{dilemma, c.d, api.Machine{}, c.other}); got != c.want {
			t.Errorf("Reply(%s, %v) gets %s, want %s", c.d, c.other, got, c.want)
		}
	}
}

// The other one lets the first player up a stair, at the end of which much is paid: all single steps but the last one cost something.
func TestA2ReplySeesFarAhead(t *testing.T) {
	g := api.Game{A: [][]int{{1, 1}, {0, 100}}, B: [][]int{{0, 0}, {0, 0}}}
	stair := api.Machine{Moves: []int{0, 0, 0, 0, 1}, Next: [][]int{{0, 1}, {0, 2}, {0, 3}, {0, 4}, {0, 4}}}
	for _, c := range []struct{ d, want api.Q }{{"1/2", "25/2"}, {"1/4", "4/3"}, {"0", "1"}, {"9/10", "6561/10"}, {"1/3", "50/27"}} {
		if got := replied(t, repeated{g, c.d, api.Machine{}, stair}); got != c.want {
			t.Errorf("Reply(%s, %v) gets %s, want %s", c.d, stair, got, c.want)
		}
	}
}

func TestA2ReplyOfDrawn(t *testing.T) {
	drawn(600, 3, 4, func(p repeated) {
		if got, want := replied(t, p), text(most(p.g.A, rat(p.d), p.second)); got != want {
			t.Fatalf("Reply(%v) gets %s, want %s", p, got, want)
		}
	})
}

// With all moves and states there is room for: what Reply gets wherever the other one begins is the most that a round can pay, and d times what is got from there on; as d is below 1, no other numbers are so.
func TestA2ReplyOfGreatOnes(t *testing.T) {
	drawn(300, api.MaxMoves, api.MaxStates, func(p repeated) {
		d := rat(p.d)
		var worth []*big.Rat
		for state := range p.second.Moves {
			worth = append(worth, rat(replied(t, repeated{p.g, p.d, p.first, from(p.second, state)})))
		}
		for state, move := range p.second.Moves {
			var best *big.Rat
			for own, next := range p.second.Next[state] {
				if now := plus(p.g.A[own][move], d, worth[next]); best == nil || now.Cmp(best) > 0 {
					best = now
				}
			}
			if worth[state].Cmp(best) != 0 {
				t.Fatalf("Reply(%v) from %d gets %v, want %v", p, state, worth[state], best)
			}
		}
	})
}

// Machines with more states than the other one, or fewer, get no more.
func TestA2ReplyAgainstAnyMachine(t *testing.T) {
	dice := die(61)
	drawn(150, api.MaxMoves, api.MaxStates, func(p repeated) {
		best := rat(replied(t, p))
		for range 12 {
			m := dice.machine(len(p.g.A), len(p.g.A[0]), api.MaxStates)
			if a, _, e := again.Worth(p.g, p.d, m, p.second); e != api.OK || rat(a).Cmp(best) > 0 {
				t.Fatalf("Reply(%v) gets %v, %v gets %q, error %d", p, best, m, a, e)
			}
		}
	})
}

func TestA2Calm(t *testing.T) {
	for _, c := range []struct {
		d             api.Q
		first, second api.Machine
		want          bool
	}{
		{"1/2", grim, grim, true}, {"2/5", grim, grim, false}, {"499/1000", grim, grim, false}, {"501/1000", grim, grim, true}, {"0", grim, grim, false}, {"99/100", grim, grim, true},
		{"0", bad, bad, true}, {"9/10", bad, bad, true}, {"9/10", good, good, false}, {"9/10", good, bad, false}, {"9/10", bad, good, false}, {"9/10", bad, grim, false}, {"9/10", grim, bad, false}, {"9/10", from(grim, 1), bad, true}, {"9/10", bad, from(grim, 1), true},
		{"2/3", likeYou, likeYou, true}, {"3/5", likeYou, likeYou, false}, {"9/10", likeYou, likeYou, true}, {"9/10", good, likeYou, false}, {"9/10", likeYou, good, false}, {"2/3", likeYou, grim, true}, {"1/2", grim, likeYou, false},
		{"x", bad, bad, true}, {"", grim, grim, false},
	} {
		if got, e := again.Calm(dilemma, c.d, c.first, c.second); got != c.want || e != api.OK {
			t.Errorf("Calm(%s, %v, %v): %v, error %d, want %v", c.d, c.first, c.second, got, e, c.want)
		}
	}
}

// calm holds what both get against the best of all choices, each against the other one's machine.
func calm(p repeated) bool {
	a, b, _ := again.Worth(p.g, p.d, p.first, p.second)
	other := turned(p.g)
	return rat(a).Cmp(most(p.g.A, rat(p.d), p.second)) == 0 && rat(b).Cmp(most(other.A, rat(p.d), p.first)) == 0
}

func TestA2CalmOfDrawn(t *testing.T) {
	seen := map[bool]int{}
	check := func(p repeated) {
		want := calm(p)
		seen[want]++
		if got, e := again.Calm(p.g, p.d, p.first, p.second); got != want || e != api.OK {
			t.Fatalf("Calm(%v): %v, error %d, want %v", p, got, e, want)
		}
	}
	drawn(600, 3, 3, func(p repeated) {
		check(p)
		// Where only the second player could do better.
		p.first, _ = again.Reply(p.g, p.d, p.second)
		check(p)
		p.second, _ = again.Reply(turned(p.g), p.d, p.first)
		check(p)
	})
	if seen[true] < 200 || seen[false] < 200 {
		t.Errorf("calm: %v", seen)
	}
}

func TestX2MachinesAreNotWrittenInto(t *testing.T) {
	drawn(100, api.MaxMoves, api.MaxStates, func(p repeated) {
		first, second := cloned(p.first), cloned(p.second)
		before := fmt.Sprint(p)
		one, _ := again.Reply(p.g, p.d, p.second)
		answer := fmt.Sprint(one)
		calls(p)
		two, _ := again.Reply(p.g, p.d, p.second)
		if fmt.Sprint(two) != answer {
			t.Fatalf("Reply(%v): %v, then %v", p, answer, two)
		}
		if after := fmt.Sprint(p); after != before {
			t.Fatalf("%s was written into: %s", before, after)
		}
		spoil(two)
		if fmt.Sprint(one) != answer || fmt.Sprint(p.first, p.second) != fmt.Sprint(first, second) {
			t.Fatalf("Reply(%v): the answer shares memory", p)
		}
	})
}

// Each list of an answer is grown and written into: no other one may change.
func TestX2MachinesShareNothing(t *testing.T) {
	drawn(100, api.MaxMoves, api.MaxStates, func(p repeated) {
		r, _ := again.Reply(p.g, p.d, p.second)
		for i := range r.Next {
			c := cloned(r)
			for k := range r.Next[i] {
				r.Next[i][k] = -7
			}
			_ = append(r.Next[i], -7)
			c.Next[i] = r.Next[i]
			if fmt.Sprint(c) != fmt.Sprint(r) {
				t.Fatalf("Reply(%v): lists share memory", p)
			}
		}
	})
}

// spoil writes into all lists of a machine.
func spoil(m api.Machine) {
	for i := range m.Moves {
		m.Moves[i] = -7
		for k := range m.Next[i] {
			m.Next[i][k] = -7
		}
		m.Next[i] = nil
	}
}
