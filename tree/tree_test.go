package tree_test

import (
	"fmt"
	"math"
	"slices"
	"testing"

	"agora/api"
	"agora/nash"
	"agora/tree"
)

// die draws numbers that look drawn, the same each time.
type die uint64

func (d *die) n(most int) int {
	*d = *d*6364136223846793005 + 1442695040888963407
	return int(uint64(*d>>33) % uint64(most))
}

// tree draws one: each node but the first one becomes the kid of any one ahead of it that has room.
func (d *die) tree(players, nodes, moves, least, most int) api.Tree {
	t := api.Tree{Players: players, Nodes: make([]api.Node, nodes)}
	for kid := 1; kid < nodes; kid++ {
		at := d.n(kid)
		for len(t.Nodes[at].Kids) == moves {
			at = d.n(kid)
		}
		t.Nodes[at].Kids = append(t.Nodes[at].Kids, kid)
	}
	for at := range t.Nodes {
		n := &t.Nodes[at]
		if len(n.Kids) > 0 {
			n.Player = d.n(players)
			continue
		}
		for range players {
			n.Pay = append(n.Pay, least+d.n(most-least+1))
		}
	}
	return t
}

func (d *die) choices(t api.Tree) []int {
	var c []int
	for _, n := range t.Nodes {
		c = append(c, d.n(max(1, len(n.Kids))))
	}
	return c
}

// drawn calls f with trees of all sizes and kinds: with many ties, with the greatest pays, long and broad ones, and choices.
func drawn(most int, f func(t api.Tree, choices []int)) {
	d := die(13)
	for i := range 900 {
		players, nodes := 1+d.n(api.MaxPlayers), 1+d.n(most)
		var t api.Tree
		switch i % 4 {
		case 0:
			t = d.tree(players, nodes, api.MaxMoves, -4, 4)
		case 1:
			t = d.tree(players, nodes, 2, 0, 1)
		case 2:
			t = d.tree(players, nodes, 3, -api.MaxPay, api.MaxPay)
		case 3:
			t = d.tree(2, nodes, 3, -1, 1)
		}
		f(t, d.choices(t))
	}
}

// end is a node at which all get so much.
func end(pay ...int) api.Node {
	return api.Node{Pay: pay}
}

// move is a player's node.
func move(player int, kids ...int) api.Node {
	return api.Node{Player: player, Kids: kids}
}

func of(players int, nodes ...api.Node) api.Tree {
	return api.Tree{Players: players, Nodes: nodes}
}

// example is the document's.
func example() api.Tree {
	return of(2, move(0, 1, 2), end(1, 1), move(1, 3, 4), end(0, 2), end(3, 1))
}

// said is what a call answers, as a text, and its error.
type said struct {
	text string
	e    api.Errno
}

// calls are all of them but May.
func calls(t api.Tree, choices []int, at, who int) map[string]said {
	pay, e := tree.Play(t, choices, at)
	back, f := tree.Backward(t)
	ok, where, g := tree.Perfect(t, choices)
	one, h := tree.Single(t, choices)
	force, i := tree.Force(t, who)
	game, j := tree.Normal(t)
	return map[string]said{
		"Play": {fmt.Sprint(pay), e}, "Backward": {fmt.Sprint(back), f}, "Perfect": {fmt.Sprint(ok, where), g}, "Single": {fmt.Sprint(one), h}, "Force": {fmt.Sprint(force), i}, "Normal": {fmt.Sprint(game), j},
	}
}

// nothing is what all calls answer with an error.
func nothing() map[string]string {
	return map[string]string{"Play": "[]", "Backward": "[]", "Perfect": "false 0", "Single": "false", "Force": "0", "Normal": "{[] []}"}
}

// refused says whether a call answered an error, and nothing else.
func refused(t *testing.T, name string, got said, want api.Errno) {
	t.Helper()
	if got.text != nothing()[name] || got.e != want {
		t.Errorf("%s: %v, want error %d", name, got, want)
	}
}

// row is a tree in which the first player goes from node to node, 40 of them at most.
func row(nodes int) api.Tree {
	t := of(1)
	for at := 1; at < nodes; at++ {
		t.Nodes = append(t.Nodes, move(0, at))
	}
	t.Nodes = append(t.Nodes, end(1))
	return t
}

func TestB1May(t *testing.T) {
	broad := of(api.MaxPlayers, move(4, 1, 2, 3, 4, 5))
	for range api.MaxMoves {
		broad.Nodes = append(broad.Nodes, end(1, 2, 3, 4, 5))
	}
	for _, good := range []api.Tree{
		example(), broad, row(1), row(2), row(api.MaxNodes), of(1, end(api.MaxPay)), of(2, end(-api.MaxPay, api.MaxPay)), of(2, move(1, 1), end(0, 0)),
		of(1, move(0, 1, 3), move(0, 2), end(1), end(2)), of(1, move(0, 1, 2), move(0, 4), move(0, 3), end(1), end(2)),
		of(1, api.Node{Kids: []int{1}, Pay: []int{}}, api.Node{Kids: []int{}, Pay: []int{4}}),
	} {
		if e := tree.May(good); e != api.OK {
			t.Errorf("May(%v): error %d", good, e)
		}
	}
	drawn(api.MaxNodes, func(tr api.Tree, choices []int) {
		if e := tree.May(tr); e != api.OK {
			t.Fatalf("May(%v): error %d", tr, e)
		}
	})
}

// bad are trees that may not be, by what is said of them.
func bad() map[api.Errno][]api.Tree {
	great := api.MaxPay + 1
	return map[api.Errno][]api.Tree{
		api.ErrCount: {
			{}, of(0, end()), of(-1, end()), of(6, end(0, 0, 0, 0, 0, 0)), of(math.MinInt, end(1)), of(math.MaxInt, end(1)),
			of(0), of(6, row(41).Nodes...), of(0, move(7, 0), end(great)), // ahead of all others
		},
		api.ErrLimit: {
			of(1), {Players: 5, Nodes: []api.Node{}}, row(api.MaxNodes + 1), {Players: 1, Nodes: make([]api.Node, 70000)},
			of(1, append(row(api.MaxNodes).Nodes, end())...), of(1, append(row(api.MaxNodes).Nodes, end(great))...), // ahead of ErrForm, ErrValue
		},
		api.ErrForm: {
			of(1, api.Node{}), of(1, end()), of(1, end(1, 2)), of(2, end(1)), of(2, end()), of(2, api.Node{Player: 1, Pay: []int{1, 1}}), of(1, api.Node{Player: -1, Pay: []int{1}}), // ends that are none
			of(1, move(1, 1), end(1)), of(1, move(-1, 1), end(1)), of(2, move(2, 1), end(1, 1)), of(1, move(math.MaxInt, 1), end(1)), of(1, move(math.MinInt, 1), end(1)), // nobody's
			of(1, api.Node{Kids: []int{1}, Pay: []int{1}}, end(1)), of(2, api.Node{Kids: []int{1}, Pay: []int{1, 1}}, end(1, 1)), of(1, api.Node{Kids: []int{1}, Pay: []int{0}}, end(1)), // both
			of(1, move(0, 1, 2, 3, 4, 5, 6), end(1), end(1), end(1), end(1), end(1), end(1)),
			of(1, end(great, great)), of(1, move(1, 0), end(great)), of(1, move(0, 1), end()), // ahead of the others of its node
			of(1, move(0, 1, 2), end(1), end(), end(1)), // ahead of ErrState, of any node
			of(1, move(0, 1, 2), end(1, 1), end(great)), // the first node's error, not the second one's
		},
		api.ErrValue: {
			of(1, end(great)), of(1, end(-great)), of(2, end(1, great)), of(2, end(math.MinInt, 0)), of(1, end(math.MaxInt)), of(1, move(0, 1, 2), end(0), end(great)),
			of(1, move(0, 1), end(great), end(1)), of(1, move(0, 1, 2), end(great), move(0, 2)), of(1, move(0, 1, 2), end(great), end()),
		},
		api.ErrWho: {
			of(1, move(0, 0)), of(1, move(0, -1), end(1)), of(1, move(0, 2), end(1)), of(1, move(0, 1, 2), end(1)), of(1, move(0, math.MaxInt), end(1)), of(1, move(0, math.MinInt), end(1)),
			of(1, move(0, 1, 1), end(1)), of(1, move(0, 2, 1), end(1), end(1)), of(1, move(0, 1, 3, 2), end(1), end(1), end(1)), of(1, move(0, 0, 1), end(1)),
			of(1, move(0, 1, 2), move(0, 1), end(1)), of(1, move(0, 1, 2), move(0, 0), end(1)), of(1, move(0, 2), move(0, 1), end(1)),
			of(1, move(0, 1, 2, 3), move(0, 5), end(1, 1), end(great)), of(1, move(0, 3), end(1), end(great)),
		},
		api.ErrState: {
			of(1, end(1), end(1)), of(1, move(0, 1), end(1), end(1)), of(1, move(0, 2), end(1), end(1)), of(1, move(0, 1, 2), move(0, 2), end(1)), of(1, move(0, 1, 2), move(0, 3), move(0, 3), end(1)),
			of(1, move(0, 2), move(0, 3), end(1), end(1)), of(1, move(0, 1, 3), end(1), move(0, 3, 4), end(1), end(1)),
		},
	}
}

func TestB1AllCallsSayItFirst(t *testing.T) {
	for want, l := range bad() {
		for _, b := range l {
			if e := tree.May(b); e != want {
				t.Errorf("May(%v): error %d, want %d", b, e, want)
			}
			for _, choices := range [][]int{nil, make([]int, len(b.Nodes)), {7}, {0, 0, 0}} {
				for _, who := range []int{0, -1, 9} {
					for name, got := range calls(b, choices, who, who) {
						refused(t, name, got, want)
					}
				}
			}
		}
	}
}

func TestB1Choices(t *testing.T) {
	wide := of(1, move(0, 1, 2, 3), end(1), move(0, 4), end(2), end(3))
	for _, c := range []struct {
		t       api.Tree
		choices []int
		want    api.Errno
	}{
		{example(), nil, api.ErrCount}, {example(), []int{}, api.ErrCount}, {example(), []int{0, 0, 0, 0}, api.ErrCount}, {example(), make([]int, 6), api.ErrCount}, {row(1), nil, api.ErrCount}, {row(1), []int{0, 0}, api.ErrCount}, {example(), []int{7, 0, 0, 0}, api.ErrCount}, {example(), make([]int, 70000), api.ErrCount},
		{example(), []int{2, 0, 0, 0, 0}, api.ErrValue}, {example(), []int{-1, 0, 0, 0, 0}, api.ErrValue}, {example(), []int{0, 0, 2, 0, 0}, api.ErrValue}, {example(), []int{0, 1, 0, 0, 0}, api.ErrValue}, {example(), []int{0, 0, 0, 0, 1}, api.ErrValue}, {example(), []int{0, 0, 0, -1, 0}, api.ErrValue}, {row(1), []int{1}, api.ErrValue}, {row(1), []int{-1}, api.ErrValue},
		{wide, []int{3, 0, 0, 0, 0}, api.ErrValue}, {wide, []int{2, 0, 1, 0, 0}, api.ErrValue}, {wide, []int{math.MaxInt, 0, 0, 0, 0}, api.ErrValue}, {wide, []int{0, 0, math.MinInt, 0, 0}, api.ErrValue},
		{wide, []int{2, 0, 0, 0, 0}, api.OK}, {example(), []int{1, 0, 1, 0, 0}, api.OK}, {row(1), []int{0}, api.OK}, {row(api.MaxNodes), make([]int, api.MaxNodes), api.OK},
	} {
		for _, at := range []int{0, -1, 40} {
			all := calls(c.t, c.choices, at, 0)
			for _, name := range []string{"Play", "Perfect", "Single"} {
				got := all[name]
				if c.want != api.OK {
					refused(t, name, got, c.want)
				} else if at == 0 && got.e != api.OK {
					t.Errorf("%s(%v, %v): error %d", name, c.t, c.choices, got.e)
				}
			}
		}
	}
}

// pay is what all get by choices, from a node on.
func pay(t api.Tree, choices []int, at int) []int {
	n := t.Nodes[at]
	if len(n.Kids) == 0 {
		return n.Pay
	}
	return pay(t, choices, n.Kids[choices[at]])
}

func TestB2Play(t *testing.T) {
	for _, c := range []struct {
		choices []int
		at      int
		want    string
	}{
		{[]int{0, 0, 0, 0, 0}, 0, "[1 1]"}, {[]int{1, 0, 0, 0, 0}, 0, "[0 2]"}, {[]int{1, 0, 1, 0, 0}, 0, "[3 1]"}, {[]int{0, 0, 1, 0, 0}, 2, "[3 1]"}, {[]int{0, 0, 1, 0, 0}, 3, "[0 2]"}, {[]int{1, 0, 0, 0, 0}, 1, "[1 1]"}, {[]int{0, 0, 0, 0, 0}, 4, "[3 1]"},
	} {
		if got, e := tree.Play(example(), c.choices, c.at); fmt.Sprint(got) != c.want || e != api.OK {
			t.Errorf("Play(%v, %d): %v, error %d, want %s", c.choices, c.at, got, e, c.want)
		}
	}
	for _, at := range []int{-1, 5, math.MinInt, math.MaxInt} {
		if got, e := tree.Play(example(), make([]int, 5), at); len(got) != 0 || e != api.ErrWho {
			t.Errorf("Play at %d: %v, error %d", at, got, e)
		}
	}
	drawn(api.MaxNodes, func(tr api.Tree, choices []int) {
		for at := range tr.Nodes {
			if got, e := tree.Play(tr, choices, at); !slices.Equal(got, pay(tr, choices, at)) || e != api.OK {
				t.Fatalf("Play(%v, %v, %d): %v, error %d", tr, choices, at, got, e)
			}
		}
	})
}

// back chooses at a node and at all behind it, each time the first best one, and is what all get so.
func back(t api.Tree, at int, choices []int) []int {
	n := t.Nodes[at]
	if len(n.Kids) == 0 {
		return n.Pay
	}
	var gets []int
	for place, kid := range n.Kids {
		if g := back(t, kid, choices); gets == nil || g[n.Player] > gets[n.Player] {
			choices[at], gets = place, g
		}
	}
	return gets
}

func TestB2Backward(t *testing.T) {
	for _, c := range []struct {
		t    api.Tree
		want string
	}{
		{example(), "[0 0 0 0 0]"}, {row(1), "[0]"}, {row(3), "[0 0 0]"},
		{of(2, move(0, 1, 2), end(1, 1), move(1, 3, 4), end(0, 2), end(3, 3)), "[1 0 1 0 0]"},
		// The first one of several, whatever the others get.
		{of(2, move(0, 1, 2, 3), end(1, 0), end(2, 0), end(2, 9)), "[1 0 0 0]"}, {of(2, move(1, 1, 2, 3), end(5, 2), end(9, 2), end(9, 1)), "[0 0 0 0]"},
		// Where nobody comes, one chooses too.
		{of(1, move(0, 1, 2), end(9), move(0, 3, 4), end(-3), end(-2)), "[0 0 1 0 0]"},
		{of(1, move(0, 1, 2), end(-api.MaxPay), end(-api.MaxPay+1)), "[1 0 0]"},
	} {
		if got, e := tree.Backward(c.t); fmt.Sprint(got) != c.want || e != api.OK {
			t.Errorf("Backward(%v): %v, error %d, want %s", c.t, got, e, c.want)
		}
	}
	drawn(api.MaxNodes, func(tr api.Tree, choices []int) {
		want := make([]int, len(tr.Nodes))
		back(tr, 0, want)
		got, e := tree.Backward(tr)
		if !slices.Equal(got, want) || e != api.OK {
			t.Fatalf("Backward(%v): %v, error %d, want %v", tr, got, e, want)
		}
		if ok, _, _ := tree.Perfect(tr, got); !ok {
			t.Fatalf("Backward(%v): %v, which is not perfect", tr, got)
		}
		if ok, _ := tree.Single(tr, got); !ok {
			t.Fatalf("Backward(%v): %v, which can be bettered at one node", tr, got)
		}
	})
}

// otherwise calls f with all choices that are as some are but at the nodes of which is tells.
func otherwise(t api.Tree, choices []int, is func(at int) bool, f func(choices []int)) {
	var each func(at int, c []int)
	each = func(at int, c []int) {
		if at == len(c) {
			f(c)
			return
		}
		if len(t.Nodes[at].Kids) == 0 || !is(at) {
			each(at+1, c)
			return
		}
		for place := range t.Nodes[at].Kids {
			next := slices.Clone(c)
			next[at] = place
			each(at+1, next)
		}
	}
	each(0, choices)
}

// bettered is the first node from which a player gets more by another plan, or -1.
func bettered(t api.Tree, choices []int) int {
	first := len(t.Nodes)
	for who := range t.Players {
		otherwise(t, choices, func(at int) bool { return t.Nodes[at].Player == who }, func(c []int) {
			for at := range first {
				if pay(t, c, at)[who] > pay(t, choices, at)[who] {
					first = at
					return
				}
			}
		})
	}
	if first == len(t.Nodes) {
		return -1
	}
	return first
}

func TestB2Perfect(t *testing.T) {
	for _, c := range []struct {
		t       api.Tree
		choices []int
		at      int // -1: perfect
	}{
		{example(), []int{0, 0, 0, 0, 0}, -1}, {example(), []int{1, 0, 0, 0, 0}, 0}, {example(), []int{0, 0, 1, 0, 0}, 0}, {example(), []int{1, 0, 1, 0, 0}, 0}, {row(1), []int{0}, -1}, {row(5), make([]int, 5), -1},
		// A threat that nobody would carry out: at the node where nobody comes.
		{of(2, move(0, 1, 2), end(1, 1), move(1, 3, 4), end(0, 0), end(3, 2)), []int{0, 0, 0, 0, 0}, 2}, {of(2, move(0, 1, 2), end(1, 1), move(1, 3, 4), end(0, 0), end(3, 2)), []int{1, 0, 1, 0, 0}, -1},
		// From a node of another player's on somebody else gets more.
		{of(2, move(0, 1), move(1, 2, 3), end(0, 0), end(0, 1)), []int{0, 0, 0, 0}, 0},
		// Only by choosing otherwise at two nodes at once from the first one on; but at the last one alone from there on.
		{of(1, move(0, 1, 2), end(1), move(0, 3, 4), end(0), end(2)), []int{0, 0, 0, 0, 0}, 0}, {of(1, move(0, 1, 2), end(3), move(0, 3, 4), end(0), end(2)), []int{0, 0, 0, 0, 0}, 2},
		// As much is not more.
		{of(2, move(0, 1, 2), end(1, 0), end(1, 9)), []int{0, 0, 0}, -1}, {of(2, move(0, 1, 2), end(1, 0), end(1, 9)), []int{1, 0, 0}, -1},
	} {
		ok, at, e := tree.Perfect(c.t, c.choices)
		if e != api.OK || ok != (c.at < 0) || at != max(c.at, 0) {
			t.Errorf("Perfect(%v, %v): %v %d, error %d, want %d", c.t, c.choices, ok, at, e, c.at)
		}
		if one, e := tree.Single(c.t, c.choices); one != ok || e != api.OK {
			t.Errorf("Single(%v, %v): %v, error %d", c.t, c.choices, one, e)
		}
	}
}

func TestB2PerfectOfDrawn(t *testing.T) {
	many := [2]int{}
	drawn(13, func(tr api.Tree, choices []int) {
		best, _ := tree.Backward(tr)
		for at := range choices {
			// One choice after the other as it is best: so some are perfect, or nearly so.
			want := bettered(tr, choices)
			ok, where, e := tree.Perfect(tr, choices)
			if e != api.OK || ok != (want < 0) || where != max(want, 0) {
				t.Fatalf("Perfect(%v, %v): %v %d, error %d, want %d", tr, choices, ok, where, e, want)
			}
			if ok {
				many[0]++
			} else if where > 0 {
				many[1]++
			}
			choices[at] = best[at]
		}
	})
	if min(many[0], many[1]) < 100 {
		t.Errorf("too few of a kind: %v", many)
	}
}

// single says whether no choice at one node alone is better, from there on.
func single(t api.Tree, choices []int) bool {
	ok := true
	for at, n := range t.Nodes {
		otherwise(t, choices, func(i int) bool { return i == at }, func(c []int) {
			if pay(t, c, at)[n.Player] > pay(t, choices, at)[n.Player] {
				ok = false
			}
		})
	}
	return ok
}

func TestB2SingleOfDrawn(t *testing.T) {
	many := [2]int{}
	drawn(api.MaxNodes, func(tr api.Tree, choices []int) {
		best, _ := tree.Backward(tr)
		for at := range choices {
			one, e := tree.Single(tr, choices)
			if e != api.OK || one != single(tr, choices) {
				t.Fatalf("Single(%v, %v): %v, error %d", tr, choices, one, e)
			}
			if ok, _, _ := tree.Perfect(tr, choices); ok != one {
				t.Fatalf("(%v, %v): Single %v, but Perfect %v", tr, choices, one, ok)
			}
			if one {
				many[0]++
			} else {
				many[1]++
			}
			choices[at] = best[at]
		}
	})
	if min(many[0], many[1]) < 100 {
		t.Errorf("too few of a kind: %v", many)
	}
}

func TestB3Force(t *testing.T) {
	three := of(3, move(0, 1, 2), move(1, 3, 4), move(2, 5, 6), end(1, 2, 3), end(4, 1, 0), end(2, 2, 2), end(-3, 5, 1))
	for _, c := range []struct {
		t    api.Tree
		who  int
		want int
		e    api.Errno
	}{
		{example(), 0, 1, api.OK}, {example(), 1, 1, api.OK}, {row(40), 0, 1, api.OK}, {of(2, end(-api.MaxPay, api.MaxPay)), 0, -api.MaxPay, api.OK}, {of(2, end(-api.MaxPay, api.MaxPay)), 1, api.MaxPay, api.OK},
		// All others are against it, whatever they get by that.
		{three, 0, 1, api.OK}, {three, 1, 2, api.OK}, {three, 2, 0, api.OK},
		{example(), 2, 0, api.ErrWho}, {example(), -1, 0, api.ErrWho}, {example(), math.MaxInt, 0, api.ErrWho}, {example(), math.MinInt, 0, api.ErrWho}, {row(1), 1, 0, api.ErrWho}, {three, 3, 0, api.ErrWho},
	} {
		if got, e := tree.Force(c.t, c.who); got != c.want || e != c.e {
			t.Errorf("Force(%v, %d): %d, error %d, want %d, error %d", c.t, c.who, got, e, c.want, c.e)
		}
	}
}

// sure is the most, over all plans of a player, of the least over all that the others can choose.
func sure(t api.Tree, who int) int {
	most := -api.MaxPay - 1
	otherwise(t, make([]int, len(t.Nodes)), func(at int) bool { return t.Nodes[at].Player == who }, func(plan []int) {
		least := api.MaxPay + 1
		otherwise(t, plan, func(at int) bool { return t.Nodes[at].Player != who }, func(c []int) {
			least = min(least, pay(t, c, 0)[who])
		})
		most = max(most, least)
	})
	return most
}

func TestB3ForceOfDrawn(t *testing.T) {
	drawn(12, func(tr api.Tree, choices []int) {
		for who := range tr.Players {
			if got, e := tree.Force(tr, who); got != sure(tr, who) || e != api.OK {
				t.Fatalf("Force(%v, %d): %d, error %d, want %d", tr, who, got, e, sure(tr, who))
			}
		}
	})
}

func TestB3Normal(t *testing.T) {
	// The first player's nodes are 0 and 2, with the second one's between.
	mixed := of(2, move(0, 1, 2), move(1, 3, 4), move(0, 5, 6), end(1, 10), end(2, 20), end(3, 30), end(4, 40))
	last := of(2, move(1, 1, 2), move(0, 3, 4), move(1, 5, 6), end(1, 10), end(2, 20), end(3, 30), end(4, 40))
	for _, c := range []struct {
		t    api.Tree
		want string
	}{
		{example(), "{[[1 1] [0 3]] [[1 1] [2 1]]}"}, {of(2, end(7, -7)), "{[[7]] [[-7]]}"}, {of(2, move(1, 1, 2), end(1, 2), end(3, 4)), "{[[1 3]] [[2 4]]}"}, {of(2, move(0, 1, 2), end(1, 2), end(3, 4)), "{[[1] [3]] [[2] [4]]}"}, {of(2, move(0, 1), end(1, 2)), "{[[1]] [[2]]}"},
		{mixed, "{[[1 2] [1 2] [3 3] [4 4]] [[10 20] [10 20] [30 30] [40 40]]}"},
		{last, "{[[1 1 3 4] [2 2 3 4]] [[10 10 30 40] [20 20 30 40]]}"},
	} {
		if got, e := tree.Normal(c.t); fmt.Sprint(got) != c.want || e != api.OK {
			t.Errorf("Normal(%v): %v, error %d, want %s", c.t, got, e, c.want)
		}
	}
}

// fan is a tree of two players, where so many moves can be made, by each, and one of the first player's stops short of the second one's.
func fan(first, second int) api.Tree {
	t := of(2, api.Node{})
	for range first {
		t.Nodes[0].Kids = append(t.Nodes[0].Kids, len(t.Nodes))
		t.Nodes = append(t.Nodes, end(1, len(t.Nodes)))
	}
	t.Nodes[first] = move(1)
	for range second {
		t.Nodes[first].Kids = append(t.Nodes[first].Kids, len(t.Nodes))
		t.Nodes = append(t.Nodes, end(2, len(t.Nodes)))
	}
	return t
}

// tall is a tree in which each player has so many nodes of two moves.
func tall(turns int) api.Tree {
	t := of(2)
	for i := range 2 * turns {
		t.Nodes = append(t.Nodes, move(i%2, 2*i+1, 2*i+2), end(i, -i))
	}
	t.Nodes = append(t.Nodes, end(99, 99))
	return t
}

func TestB3NormalRefused(t *testing.T) {
	for _, c := range []struct {
		t    api.Tree
		want api.Errno
	}{
		{fan(5, 5), api.OK}, {tall(1), api.OK}, {tall(2), api.OK},
		{tall(3), api.ErrLimit}, {tall(9), api.ErrLimit},
		// One of them is enough: 6 plans are 2 times 3.
		{of(2, move(0, 1, 2), move(0, 3, 4, 5), end(1, 1), end(1, 1), end(1, 1), end(1, 1)), api.ErrLimit}, {of(2, move(1, 1, 2), move(1, 3, 4, 5), end(1, 1), end(1, 1), end(1, 1), end(1, 1)), api.ErrLimit},
		{of(2, move(0, 1, 2, 3), move(0, 4, 5), end(1, 1), end(1, 1), end(1, 1), end(1, 1)), api.ErrLimit},
		{row(1), api.ErrCount}, {row(40), api.ErrCount}, {of(3, end(1, 1, 1)), api.ErrCount}, {of(5, end(1, 1, 1, 1, 1)), api.ErrCount},
		{of(3, move(1, 1, 2), move(1, 3, 4, 5), end(1, 1, 1), end(1, 1, 1), end(1, 1, 1), end(1, 1, 1)), api.ErrCount}, // ahead of ErrLimit
	} {
		got, e := tree.Normal(c.t)
		if e != c.want || e != api.OK && fmt.Sprint(got) != nothing()["Normal"] {
			t.Errorf("Normal(%v): %v, error %d, want %d", c.t, got, e, c.want)
		}
	}
	for first := 1; first <= api.MaxMoves; first++ {
		for second := 1; second <= api.MaxMoves; second++ {
			if g, e := tree.Normal(fan(first, second)); e != api.OK || len(g.A) != first || len(g.B[0]) != second {
				t.Errorf("Normal(fan(%d, %d)): %v, error %d", first, second, g, e)
			}
		}
	}
}

// plans are all of a player, in order.
func plans(t api.Tree, who int) [][]int {
	var l [][]int
	otherwise(t, make([]int, len(t.Nodes)), func(at int) bool { return t.Nodes[at].Player == who }, func(c []int) {
		l = append(l, slices.Clone(c))
	})
	return l
}

func TestB3NormalOfDrawn(t *testing.T) {
	many := map[api.Errno]int{}
	drawn(12, func(tr api.Tree, choices []int) {
		g, e := tree.Normal(tr)
		many[e]++
		if tr.Players != 2 {
			if e != api.ErrCount {
				t.Fatalf("Normal(%v): error %d", tr, e)
			}
			return
		}
		rows, cols := plans(tr, 0), plans(tr, 1)
		if (e == api.ErrLimit) != (max(len(rows), len(cols)) > api.MaxMoves) {
			t.Fatalf("Normal(%v): error %d, but %d and %d plans", tr, e, len(rows), len(cols))
		}
		if e == api.ErrLimit {
			return
		}
		if e != api.OK || nash.May(g) != api.OK || len(g.A) != len(rows) || len(g.A[0]) != len(cols) {
			t.Fatalf("Normal(%v): %v, error %d", tr, g, e)
		}
		for i, row := range rows {
			for j, col := range cols {
				both := make([]int, len(row))
				for at := range both {
					both[at] = row[at] + col[at]
				}
				if got := pay(tr, both, 0); got[0] != g.A[i][j] || got[1] != g.B[i][j] {
					t.Fatalf("Normal(%v): %v, but %v by %v and %v", tr, g, got, row, col)
				}
			}
		}
	})
	if min(many[api.OK], many[api.ErrLimit], many[api.ErrCount]) < 50 {
		t.Errorf("too few of a kind: %v", many)
	}
}

func TestX2NothingIsChanged(t *testing.T) {
	drawn(api.MaxNodes, func(tr api.Tree, choices []int) {
		// Behind each list stands something that no call may write to.
		nodes := append(slices.Clone(tr.Nodes), end(77))
		for i, n := range tr.Nodes {
			nodes[i].Kids, nodes[i].Pay = append(slices.Clone(n.Kids), 88)[:len(n.Kids)], append(slices.Clone(n.Pay), 99)[:len(n.Pay)]
		}
		long := append(slices.Clone(choices), 66)
		whole := func() string {
			text := fmt.Sprint(nodes, long)
			for _, n := range nodes[:len(tr.Nodes)] {
				text += fmt.Sprint(n.Kids[:len(n.Kids)+1], n.Pay[:len(n.Pay)+1])
			}
			return text
		}
		before := whole()
		first := calls(of(tr.Players, nodes[:len(tr.Nodes)]...), long[:len(choices)], len(choices)/2, tr.Players-1)
		if after := whole(); after != before {
			t.Fatalf("changed: %s, was %s", after, before)
		}
		if again := calls(tr, choices, len(choices)/2, tr.Players-1); fmt.Sprint(again) != fmt.Sprint(first) {
			t.Fatalf("%v: asked again: %v, was %v", tr, again, first)
		}
	})
}

// spoil writes into a list, and behind its end.
func spoil(l []int) {
	l = l[:cap(l)]
	for i := range l {
		l[i] = 12345
	}
}

func TestX2FreshAnswers(t *testing.T) {
	drawn(api.MaxNodes, func(tr api.Tree, choices []int) {
		before := fmt.Sprint(tr, choices)
		for at := range tr.Nodes {
			pay, _ := tree.Play(tr, choices, at)
			spoil(pay)
		}
		best, _ := tree.Backward(tr)
		spoil(best)
		if after := fmt.Sprint(tr, choices); after != before {
			t.Fatalf("%s, was %s", after, before)
		}
		g, _ := tree.Normal(tr)
		rows := append(slices.Clone(g.A), g.B...)
		for len(rows) > 0 {
			was := fmt.Sprint(rows[1:])
			spoil(rows[0])
			if rows = rows[1:]; fmt.Sprint(rows) != was {
				t.Fatalf("Normal(%v): rows share memory", tr)
			}
		}
		if after := fmt.Sprint(tr, choices); after != before {
			t.Fatalf("%s, was %s", after, before)
		}
	})
}
