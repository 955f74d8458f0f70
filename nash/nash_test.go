package nash_test

import (
	"fmt"
	"math"
	"math/big"
	"slices"
	"strings"
	"testing"

	"agora/api"
	"agora/exact"
	"agora/line"
	"agora/nash"
)

// die draws numbers that look drawn, the same each time.
type die uint64

func (d *die) n(most int) int {
	*d = *d*6364136223846793005 + 1442695040888963407
	return int(uint64(*d>>33) % uint64(most))
}

// pays draws what a player gets, from least to most.
func (d *die) pays(rows, cols, least, most int) [][]int {
	a := make([][]int, rows)
	for i := range a {
		for range cols {
			a[i] = append(a[i], least+d.n(most-least+1))
		}
	}
	return a
}

func (d *die) game(rows, cols, least, most int) api.Game {
	return api.Game{A: d.pays(rows, cols, least, most), B: d.pays(rows, cols, least, most)}
}

func (d *die) mix(n int) []api.Q {
	weights, all := make([]int, n), 0
	for i := range weights {
		weights[i] = d.n(4)
		all += weights[i]
	}
	if all == 0 {
		weights[d.n(n)], all = 1, 1
	}
	var l []api.Q
	for _, w := range weights {
		l = append(l, api.Q(fmt.Sprintf("%d/%d", w, all)))
	}
	return l
}

// against is a game in which the one pays what the other one gets.
func against(a [][]int) api.Game {
	g := api.Game{A: a}
	for _, row := range a {
		var l []int
		for _, pays := range row {
			l = append(l, -pays)
		}
		g.B = append(g.B, l)
	}
	return g
}

// drawn calls f with games of all sizes and kinds: with many ties, below 0, the greatest, one against the other, both alike.
func drawn(f func(g api.Game)) {
	d := die(12)
	for i := range 240 {
		rows, cols := 1+d.n(api.MaxMoves), 1+d.n(api.MaxMoves)
		switch i % 8 {
		case 0:
			f(d.game(rows, cols, 0, 6))
		case 1:
			f(d.game(rows, cols, 0, 1))
		case 2:
			f(d.game(rows, cols, -9, -3))
		case 3:
			f(d.game(rows, cols, -api.MaxPay, api.MaxPay))
		case 4:
			f(against(d.pays(rows, cols, -2, 2)))
		case 5:
			a := d.pays(rows, cols, 0, 9)
			f(api.Game{A: a, B: a})
		case 6:
			f(d.game(api.MaxMoves, api.MaxMoves, 0, 1+i%9))
		case 7:
			f(against(d.pays(api.MaxMoves, api.MaxMoves, -api.MaxPay, api.MaxPay)))
		}
	}
	f(d.game(5, 5, api.MaxPay, api.MaxPay))
	f(d.game(5, 5, -api.MaxPay, -api.MaxPay))
}

// of reads a game: for each pair what both get, a comma between; rows with / between.
func of(text string) api.Game {
	var g api.Game
	for row := range strings.SplitSeq(text, "/") {
		var a, b []int
		for _, word := range strings.Fields(row) {
			var first, second int
			fmt.Sscanf(word, "%d,%d", &first, &second)
			a, b = append(a, first), append(b, second)
		}
		g.A, g.B = append(g.A, a), append(g.B, b)
	}
	return g
}

func list(text string) []api.Q {
	var l []api.Q
	for _, word := range strings.Fields(text) {
		l = append(l, api.Q(word))
	}
	return l
}

// chances reads those of all pairs, rows with | between.
func chances(text string) [][]api.Q {
	var p [][]api.Q
	for row := range strings.SplitSeq(text, "|") {
		p = append(p, list(row))
	}
	return p
}

func rat(q api.Q) *big.Rat {
	r, ok := new(big.Rat).SetString(string(exact.Norm(q)))
	if !ok {
		panic(q)
	}
	return r
}

// product is the chances of all pairs, if each player draws its move by itself.
func product(m api.Mix) [][]api.Q {
	var p [][]api.Q
	for _, x := range m.X {
		var row []api.Q
		for _, y := range m.Y {
			row = append(row, exact.Mul(x, y))
		}
		p = append(p, row)
	}
	return p
}

// average is what is paid by chances.
func average(pays [][]int, p [][]api.Q) *big.Rat {
	sum := new(big.Rat)
	for i, row := range p {
		for j, q := range row {
			sum.Add(sum, new(big.Rat).Mul(big.NewRat(int64(pays[i][j]), 1), rat(q)))
		}
	}
	return sum
}

// moving is what a player is paid, if it makes one move wherever it is told another one.
func moving(pays [][]int, p [][]api.Q, player, told, instead int) *big.Rat {
	changed := make([][]int, len(pays))
	for i := range pays {
		for j := range pays[i] {
			at := [2]int{i, j}
			if at[player] == told {
				at[player] = instead
			}
			changed[i] = append(changed[i], pays[at[0]][at[1]])
		}
	}
	return average(changed, p)
}

// obeyed is N3 once more: what all get as they are told, held against what they get if they make another move.
func obeyed(g api.Game, p [][]api.Q) bool {
	pays, many := [2][][]int{g.A, g.B}, [2]int{len(g.A), len(g.A[0])}
	for player := range 2 {
		for told := range many[player] {
			for instead := range many[player] {
				if moving(pays[player], p, player, told, instead).Cmp(average(pays[player], p)) > 0 {
					return false
				}
			}
		}
	}
	return true
}

func only(n, move int) []api.Q {
	l := slices.Repeat([]api.Q{"0"}, n)
	l[move] = "1"
	return l
}

// calm is N1 once more: what both get, held against what they get by each one move alone.
func calm(g api.Game, m api.Mix) bool {
	for i := range m.X {
		if average(g.A, product(api.Mix{X: only(len(m.X), i), Y: m.Y})).Cmp(average(g.A, product(m))) > 0 {
			return false
		}
	}
	for j := range m.Y {
		if average(g.B, product(api.Mix{X: m.X, Y: only(len(m.Y), j)})).Cmp(average(g.B, product(m))) > 0 {
			return false
		}
	}
	return true
}

// said is what a call answers, as a text, and its error.
type said struct {
	text string
	e    api.Errno
}

// calls are all of them but May.
func calls(g api.Game, m api.Mix, p [][]api.Q, free int) map[string]said {
	first, second, a := nash.Gets(g, m)
	ok, b := nash.Calm(g, m)
	pure, c := nash.Pure(g)
	found, d := nash.Find(g, free)
	yes, e := nash.Obeyed(g, p)
	told, f := nash.Told(g)
	return map[string]said{
		"Gets": {fmt.Sprintf("%q %q", first, second), a}, "Calm": {fmt.Sprint(ok), b}, "Pure": {fmt.Sprint(pure), c},
		"Find": {fmt.Sprint(found), d}, "Obeyed": {fmt.Sprint(yes), e}, "Told": {fmt.Sprint(told), f},
	}
}

// nothing is what all calls answer with an error.
func nothing() map[string]string {
	return map[string]string{"Gets": `"" ""`, "Calm": "false", "Pure": "[]", "Find": "{[] []}", "Obeyed": "false", "Told": "[]"}
}

func TestN1May(t *testing.T) {
	d := die(1)
	for rows := 1; rows <= api.MaxMoves; rows++ {
		for cols := 1; cols <= api.MaxMoves; cols++ {
			for _, pays := range []int{0, api.MaxPay, -api.MaxPay} {
				if g := d.game(rows, cols, pays, pays); nash.May(g) != api.OK {
					t.Errorf("May(%v): error %d", g, nash.May(g))
				}
			}
		}
	}
}

func TestN1AllCallsSayItFirst(t *testing.T) {
	one, great := [][]int{{1}}, [][]int{{api.MaxPay + 1}}
	bad := []struct {
		g    api.Game
		want api.Errno
	}{
		{api.Game{}, api.ErrCount}, {api.Game{A: one}, api.ErrCount}, {api.Game{B: one}, api.ErrCount}, {api.Game{A: [][]int{{}}, B: [][]int{{}}}, api.ErrCount}, {api.Game{A: make([][]int, 6), B: make([][]int, 6)}, api.ErrCount},
		{api.Game{A: [][]int{{1, 2}, {1}}, B: [][]int{{1, 2}, {1, 2}}}, api.ErrCount}, {api.Game{A: [][]int{{1, 2}, {1, 2}}, B: [][]int{{1, 2}, {1}}}, api.ErrCount}, {api.Game{A: [][]int{make([]int, 6)}, B: [][]int{make([]int, 6)}}, api.ErrCount},
		{api.Game{A: great, B: one}, api.ErrValue}, {api.Game{A: one, B: great}, api.ErrValue}, {api.Game{A: [][]int{{-api.MaxPay - 1}}, B: one}, api.ErrValue}, {api.Game{A: one, B: [][]int{{math.MinInt}}}, api.ErrValue},
		// A's error first, then B's, then whether they are alike.
		{api.Game{A: great}, api.ErrValue}, {api.Game{B: great}, api.ErrCount}, {api.Game{A: great, B: [][]int{{1, 2}}}, api.ErrValue}, {api.Game{A: [][]int{{1, 2}}, B: great}, api.ErrValue},
		{api.Game{A: one, B: [][]int{{1, 2}}}, api.ErrCount}, {api.Game{A: [][]int{{1, 2}}, B: one}, api.ErrCount}, {api.Game{A: one, B: [][]int{{1}, {2}}}, api.ErrCount}, {api.Game{A: [][]int{{1, 2}}, B: [][]int{{1}, {2}}}, api.ErrCount}, {api.Game{A: [][]int{{1, 2, 3}, {1, 2, 3}}, B: [][]int{{1, 2}, {1, 2}, {1, 2}}}, api.ErrCount},
	}
	for _, b := range bad {
		if e := nash.May(b.g); e != b.want {
			t.Errorf("May(%v): error %d, want %d", b.g, e, b.want)
		}
		for _, free := range []int{-1, 0, 1} {
			for _, m := range []api.Mix{{}, {X: list("1"), Y: list("1")}, {X: list("1"), Y: list("1/2 1/2")}, {X: list("2"), Y: list("1")}} {
				for name, got := range calls(b.g, m, product(m), free) {
					if got.text != nothing()[name] || got.e != b.want {
						t.Errorf("%s(%v, %v, %d): %v, want %d", name, b.g, m, free, got, b.want)
					}
				}
			}
		}
	}
}

func TestN1GetsAndCalm(t *testing.T) {
	for _, c := range []struct {
		g, x, y       string
		first, second api.Q
		calm          bool
	}{
		{"2,1 0,0 / 0,0 1,2", "1 0", "1 0", "2", "1", true}, {"2,1 0,0 / 0,0 1,2", "0 1", "0 1", "1", "2", true}, {"2,1 0,0 / 0,0 1,2", "2/3 1/3", "1/3 2/3", "2/3", "2/3", true},
		{"2,1 0,0 / 0,0 1,2", "1 0", "0 1", "0", "0", false}, {"2,1 0,0 / 0,0 1,2", "1/3 2/3", "1/3 2/3", "2/3", "1", false}, {"2,1 0,0 / 0,0 1,2", "2/3 1/3", "2/3 1/3", "1", "2/3", false},
		{"3,3 0,5 / 5,0 1,1", "1 0", "1 0", "3", "3", false}, {"3,3 0,5 / 5,0 1,1", "0 1", "0 1", "1", "1", true}, {"3,3 0,5 / 5,0 1,1", "1/2 1/2", "1/2 1/2", "9/4", "9/4", false},
		{"7,-7", "1", "1", "7", "-7", true}, {"0,1 0,3 0,2", "1", "0 1 0", "0", "3", true}, {"0,1 0,3 0,3", "1", "0 1/7 6/7", "0", "3", true}, {"0,1 0,3 0,3", "1", "1/9 8/9 0", "0", "25/9", false}, {"4,0 / 5,0", "1/3 2/3", "1", "14/3", "0", false},
		// Only the one, only the other one would rather go.
		{"1,0 1,1 / 0,0 0,0", "1 0", "1 0", "1", "0", false}, {"0,1 0,0 / 1,0 0,0", "1 0", "1 0", "0", "1", false},
		// Not in lowest terms, and texts that count as 0.
		{"1,0 0,1 / 0,1 1,0", "2/4 1/2", "003/6 5/10", "1/2", "1/2", true}, {"1,0 0,1 / 0,1 1,0", "x 1", "1 1.5", "0", "1", false},
	} {
		m := api.Mix{X: list(c.x), Y: list(c.y)}
		first, second, e := nash.Gets(of(c.g), m)
		if first != c.first || second != c.second || e != api.OK {
			t.Errorf("Gets(%s, %v): %q %q, error %d; want %q %q", c.g, m, first, second, e, c.first, c.second)
		}
		if ok, e := nash.Calm(of(c.g), m); ok != c.calm || e != api.OK {
			t.Errorf("Calm(%s, %v): %v, error %d; want %v", c.g, m, ok, e, c.calm)
		}
	}
}

func TestN1GetsAndCalmOfDrawn(t *testing.T) {
	d := die(4)
	drawn(func(g api.Game) {
		m := api.Mix{X: d.mix(len(g.A)), Y: d.mix(len(g.A[0]))}
		p := product(m)
		first, second, e := nash.Gets(g, m)
		if e != api.OK || first != api.Q(average(g.A, p).RatString()) || second != api.Q(average(g.B, p).RatString()) {
			t.Fatalf("Gets(%v, %v): %q %q, error %d", g, m, first, second, e)
		}
		if ok, e := nash.Calm(g, m); ok != calm(g, m) || e != api.OK {
			t.Fatalf("Calm(%v, %v): %v, error %d", g, m, ok, e)
		}
	})
}

func TestN1NoMix(t *testing.T) {
	g := of("1,1 2,2 3,3 / 4,4 5,5 6,6") // two moves against three
	good := api.Mix{X: list("1/2 1/2"), Y: list("1/2 1/2 0")}
	if _, e := nash.Calm(g, good); e != api.OK {
		t.Fatalf("Calm: error %d", e)
	}
	mixes := []api.Mix{{}, {X: good.X}, {Y: good.Y}, {X: good.Y, Y: good.X}}
	for _, x := range []string{"", "1", "1 0 0", "1/2 1/3", "1 1", "0 0", "3/2 -1/2", "-1 2", "1.0 0"} {
		mixes = append(mixes, api.Mix{X: list(x), Y: good.Y})
	}
	for _, y := range []string{"", "1", "1 0", "1 0 0 0", "1/2 1/3 1/7", "1 1 0", "0 0 0", "3/2 -1/2 0", "-1 1 1", "x y z"} {
		mixes = append(mixes, api.Mix{X: good.X, Y: list(y)})
	}
	for _, m := range mixes {
		if first, second, e := nash.Gets(g, m); first != "" || second != "" || e != api.ErrState {
			t.Errorf("Gets(.., %v): %q %q, error %d", m, first, second, e)
		}
		if ok, e := nash.Calm(g, m); ok || e != api.ErrState {
			t.Errorf("Calm(.., %v): %v, error %d", m, ok, e)
		}
	}
}

func TestN2Pure(t *testing.T) {
	for _, c := range []struct {
		g    string
		want [][2]int
	}{
		{"2,1 0,0 / 0,0 1,2", [][2]int{{0, 0}, {1, 1}}}, {"3,3 0,5 / 5,0 1,1", [][2]int{{1, 1}}}, {"1,-1 -1,1 / -1,1 1,-1", nil}, {"0,0", [][2]int{{0, 0}}}, {"-5,3 9,4 9,4", [][2]int{{0, 1}, {0, 2}}}, {"1,0 / 2,0 / 2,-1", [][2]int{{1, 0}, {2, 0}}},
		{"0,0 0,0 / 0,0 0,0", [][2]int{{0, 0}, {0, 1}, {1, 0}, {1, 1}}}, {"1,0 0,1 0,0 / 0,1 1,0 0,0 / 0,0 0,0 2,2", [][2]int{{2, 2}}}, {"0,1 1,0 / 0,0 0,1 / 3,3 1,3", [][2]int{{2, 0}, {2, 1}}},
	} {
		if l, e := nash.Pure(of(c.g)); !slices.Equal(l, c.want) || e != api.OK {
			t.Errorf("Pure(%s): %v, error %d; want %v", c.g, l, e, c.want)
		}
	}
}

func TestN2PureOfDrawn(t *testing.T) {
	drawn(func(g api.Game) {
		var want [][2]int
		for i := range g.A {
			for j := range g.A[i] {
				if calm(g, api.Mix{X: only(len(g.A), i), Y: only(len(g.A[0]), j)}) {
					want = append(want, [2]int{i, j})
				}
			}
		}
		if l, e := nash.Pure(g); !slices.Equal(l, want) || e != api.OK {
			t.Fatalf("Pure(%v): %v, error %d; want %v", g, l, e, want)
		}
	})
}

// find asks for each move that is free, and fails, unless what it is answered is calm.
func find(t *testing.T, g api.Game) []api.Mix {
	t.Helper()
	var all []api.Mix
	for free := range len(g.A) + len(g.A[0]) {
		m, e := nash.Find(g, free)
		ok, f := nash.Calm(g, m)
		if e != api.OK || !ok || f != api.OK {
			t.Fatalf("Find(%v, %d): %v, error %d; Calm: %v, error %d", g, free, m, e, ok, f)
		}
		all = append(all, m)
	}
	return all
}

func lowest(l []api.Q) bool {
	return !slices.ContainsFunc(l, func(q api.Q) bool { return exact.Norm(q) != q })
}

func TestN2FindOfDrawn(t *testing.T) {
	drawn(func(g api.Game) {
		for _, m := range find(t, g) {
			if len(m.X) != len(g.A) || len(m.Y) != len(g.A[0]) || !calm(g, m) || !lowest(m.X) || !lowest(m.Y) {
				t.Fatalf("Find(%v): %v", g, m)
			}
		}
	})
}

// Where there is just one mix that is calm, that one is found, whatever is free.
func TestN2FindTheOnly(t *testing.T) {
	for _, c := range []struct{ g, x, y string }{
		{"1,-1 -1,1 / -1,1 1,-1", "1/2 1/2", "1/2 1/2"}, {"3,3 0,5 / 5,0 1,1", "0 1", "0 1"}, {"0,0 -1,1 1,-1 / 1,-1 0,0 -1,1 / -1,1 1,-1 0,0", "1/3 1/3 1/3", "1/3 1/3 1/3"}, {"4,4", "1", "1"}, {"1,1 1,5 9,2", "1", "0 1 0"}, {"1,1 / 5,1 / 2,9", "0 1 0", "1"},
		{"1,3 4,2 / 2,1 3,7", "6/7 1/7", "1/2 1/2"}, {"999,-999 -999,999 / -999,999 998,-999", "1998/3996 1998/3996", "1997/3995 1998/3995"},
	} {
		for _, m := range find(t, of(c.g)) {
			if x, y := list(c.x), list(c.y); !same(m.X, x) || !same(m.Y, y) {
				t.Errorf("Find(%s): %v; want %s and %s", c.g, m, c.x, c.y)
			}
		}
	}
}

func same(a, b []api.Q) bool {
	return slices.EqualFunc(a, b, func(p, q api.Q) bool { return exact.Cmp(p, q) == 0 })
}

func TestN2FindOneOfSeveral(t *testing.T) {
	for _, m := range find(t, of("2,1 0,0 / 0,0 1,2")) {
		text := fmt.Sprint(m)
		if !slices.Contains([]string{"{[1 0] [1 0]}", "{[0 1] [0 1]}", "{[2/3 1/3] [1/3 2/3]}"}, text) {
			t.Errorf("Find: %s", text)
		}
	}
}

// Where nearly all is a tie a way might go round for ever.
func TestN2FindOfAllSmall(t *testing.T) {
	for code := range 6561 {
		g := api.Game{A: [][]int{{0, 0}, {0, 0}}, B: [][]int{{0, 0}, {0, 0}}}
		for place, rest := 0, code; place < 8; place, rest = place+1, rest/3 {
			a := g.A
			if place >= 4 {
				a = g.B
			}
			a[place/2%2][place%2] = rest % 3
		}
		find(t, g)
	}
}

func TestN2FindOfTies(t *testing.T) {
	d := die(9)
	for i := range 400 {
		rows, cols := 2+d.n(4), 2+d.n(4)
		g := d.game(rows, cols, 0, 1+i%2)
		g.A[d.n(rows)], g.B[d.n(rows)] = g.A[0], g.B[0]
		find(t, g)
	}
}

func TestN2FindNobody(t *testing.T) {
	for rows := 1; rows <= api.MaxMoves; rows++ {
		for cols := 1; cols <= api.MaxMoves; cols++ {
			d := die(3)
			g := d.game(rows, cols, 0, 3)
			for _, free := range []int{-1, rows + cols, rows + cols + 1, math.MinInt, math.MaxInt} {
				if m, e := nash.Find(g, free); len(m.X) != 0 || len(m.Y) != 0 || e != api.ErrWho {
					t.Errorf("Find(%v, %d): %v, error %d", g, free, m, e)
				}
			}
			find(t, g)
		}
	}
}

func TestN3Obeyed(t *testing.T) {
	const chicken = "6,6 2,7 / 7,2 0,0"
	for _, c := range []struct {
		g, p string
		want bool
	}{
		{chicken, "1/3 1/3 | 1/3 0", true}, {chicken, "1/2 1/4 | 1/4 0", true}, {chicken, "0 1 | 0 0", true}, {chicken, "0 0 | 1 0", true}, {chicken, "0 1/2 | 1/2 0", true}, {chicken, "4/9 2/9 | 2/9 1/9", true},
		{chicken, "1 0 | 0 0", false}, {chicken, "51/100 49/200 | 49/200 0", false}, {chicken, "1/4 1/4 | 1/4 1/4", false}, {chicken, "0 0 | 0 1", false},
		// Only the one, only the other one would rather not.
		{"0,1 0,0 / 1,0 0,0", "1 0 | 0 0", false}, {"1,0 1,1 / 0,0 0,0", "1 0 | 0 0", false}, {"5,5", "1", true}, {"1,2 9,3 0,3", "0 2/5 3/5", true}, {"1,2 9,3 0,3", "1/9 8/9 0", false}, {"1,9 / 2,0 / 2,5", "0 | 1/2 | 1/2", true}, {"1,9 / 2,0 / 2,5", "1/2 | 1/2 | 0", false},
		// Told one move it may be that another one is better, though on the whole none is.
		{"2,0 0,0 / 0,0 2,0", "0 1/2 | 1/2 0", false}, {"0,2 0,0 / 0,0 0,2", "0 1/2 | 1/2 0", false},
		// Not in lowest terms, and texts that count as 0.
		{chicken, "2/6 003/9 | 1/3 x", true}, {chicken, "x 1 | 1.5 1/0", true},
	} {
		p := chances(c.p)
		if ok, e := nash.Obeyed(of(c.g), p); ok != c.want || e != api.OK {
			t.Errorf("Obeyed(%s, %v): %v, error %d; want %v", c.g, p, ok, e, c.want)
		}
	}
}

func TestN3NoChances(t *testing.T) {
	g := of("1,1 2,2 3,3 / 4,4 5,5 6,6")
	for _, text := range []string{
		"", "|", "1", "1 | 0", "1 0 0", "1 0 0 | 0 0", "1 0 | 0 0 0", "1 0 0 | 0 0 0 0", "1 0 0 0 | 0 0", "1 0 0 | 0 0 0 |", "1 0 0 | 0 0 0 | 0 0 0", "1 0 | 0 0 | 0 0",
		"0 0 0 | 0 0 0", "1 0 0 | 0 0 1/9", "1/2 0 0 | 0 0 1/3", "1 0 0 | 1 0 0", "2 0 0 | 0 0 -1", "-1/2 1/2 1/2 | 1/2 0 0", "x 0 0 | 0 0 1.0",
	} {
		if ok, e := nash.Obeyed(g, chances(text)); ok || e != api.ErrState {
			t.Errorf("Obeyed(.., %s): %v, error %d", text, ok, e)
		}
	}
	for _, p := range [][][]api.Q{nil, {}, {nil, nil}, make([][]api.Q, 70000)} {
		if ok, e := nash.Obeyed(g, p); ok || e != api.ErrState {
			t.Errorf("Obeyed(.., %d rows): %v, error %d", len(p), ok, e)
		}
	}
}

func TestN3ObeyedOfDrawn(t *testing.T) {
	d, kinds := die(6), [2]int{}
	drawn(func(g api.Game) {
		flat := d.mix(len(g.A) * len(g.A[0]))
		if d.n(2) == 0 {
			flat = only(len(flat), d.n(len(flat)))
		}
		p := slices.Collect(slices.Chunk(flat, len(g.A[0])))
		ok, e := nash.Obeyed(g, p)
		if ok != obeyed(g, p) || e != api.OK {
			t.Fatalf("Obeyed(%v, %v): %v, error %d", g, p, ok, e)
		}
		// Who draws its move by itself obeys just where the mix is calm.
		m := find(t, g)[0]
		if ok, e := nash.Obeyed(g, product(m)); !ok || e != api.OK {
			t.Fatalf("Obeyed(%v, %v): %v, error %d", g, m, ok, e)
		}
		if ok {
			kinds[1]++
		} else {
			kinds[0]++
		}
	})
	if min(kinds[0], kinds[1]) < 20 {
		t.Errorf("too few of a kind: %v", kinds)
	}
}

// told asks for chances, and fails, unless they are obeyed.
func told(t *testing.T, g api.Game) [][]api.Q {
	t.Helper()
	p, e := nash.Told(g)
	ok, f := nash.Obeyed(g, p)
	if e != api.OK || !ok || f != api.OK || !obeyed(g, p) {
		t.Fatalf("Told(%v): %v, error %d; Obeyed: %v, error %d", g, p, e, ok, f)
	}
	return p
}

func both(g api.Game, p [][]api.Q) *big.Rat {
	return new(big.Rat).Add(average(g.A, p), average(g.B, p))
}

func TestN3Told(t *testing.T) {
	for _, c := range []struct{ g, p, both string }{
		{"6,6 2,7 / 7,2 0,0", "1/2 1/4 | 1/4 0", "21/2"}, {"3,3 0,5 / 5,0 1,1", "0 0 | 0 1", "2"}, {"1,-1 -1,1 / -1,1 1,-1", "1/4 1/4 | 1/4 1/4", "0"}, {"-5,-7", "1", "-12"}, {"1,1 1,5 9,2", "0 1 0", "6"},
		{"2,1 0,0 / 0,0 1,2", "", "3"}, {"9,9 0,0 / 0,0 8,11", "0 0 | 0 1", "19"}, {"9,9 9,9 / 9,9 9,9", "", "18"}, {"-999,-999 -998,-999 / -999,-999 -999,-999", "0 1 | 0 0", "-1997"},
	} {
		g := of(c.g)
		p := told(t, g)
		if c.p != "" && fmt.Sprint(p) != fmt.Sprint(chances(c.p)) || both(g, p).RatString() != c.both {
			t.Errorf("Told(%s): %v, together %s; want %s, %s", c.g, p, both(g, p).RatString(), c.p, c.both)
		}
	}
}

// betters asks for numbers of all pairs that would be obeyed, and give both more than so much for each: none there are, if there is nothing that is the most.
func betters(g api.Game, much *big.Rat) api.Line {
	var l api.Line
	pays, many := [2][][]int{g.A, g.B}, [2]int{len(g.A), len(g.A[0])}
	for player := range 2 {
		for told := range many[player] {
			for instead := range many[player] {
				if told == instead {
					continue
				}
				var row []api.Q
				for i := range g.A {
					for j := range g.A[i] {
						at, gain := [2]int{i, j}, 0
						if at[player] == told {
							at[player] = instead
							gain = pays[player][at[0]][at[1]] - pays[player][i][j]
						}
						row = append(row, exact.Of(gain))
					}
				}
				l.A, l.B = append(l.A, row), append(l.B, "0")
			}
		}
	}
	for i := range g.A {
		for j := range g.A[i] {
			l.C = append(l.C, exact.Sub(exact.Of(g.A[i][j]+g.B[i][j]), api.Q(much.RatString())))
		}
	}
	return l
}

func TestN3ToldOfDrawn(t *testing.T) {
	drawn(func(g api.Game) {
		p := told(t, g)
		for _, row := range p {
			if !lowest(row) {
				t.Fatalf("Told(%v): %v", g, p)
			}
		}
		l := betters(g, both(g, p))
		if a, e := line.Solve(l); a.Kind != api.Best || e != api.OK {
			t.Fatalf("Told(%v): %v, together %s: not the most: %v, error %d", g, p, both(g, p), a, e)
		}
		// No mix that is calm gives them more.
		for _, m := range find(t, g) {
			if both(g, product(m)).Cmp(both(g, p)) > 0 {
				t.Fatalf("Told(%v): %v, but %v gives more", g, p, m)
			}
		}
	})
}

// Of the greatest games all gains there can be count.
func TestN3ToldOfGreatest(t *testing.T) {
	d := die(20)
	for i := range 80 {
		most := []int{1, 2, 5, 30, api.MaxPay}[i%5]
		g := d.game(api.MaxMoves, api.MaxMoves, -most, most)
		if i%3 == 0 { // such that the first move is often told, and often would rather be the second one
			for j := range api.MaxMoves {
				g.A[0][j], g.A[1][j] = most-d.n(2), most-d.n(2)
				g.B[0][j], g.B[1][j] = most, most
			}
		}
		p := told(t, g)
		if a, e := line.Solve(betters(g, both(g, p))); a.Kind != api.Best || e != api.OK {
			t.Fatalf("Told(%v): %v, together %s: not the most: %v, error %d", g, p, both(g, p), a, e)
		}
	}
}

// Two moves of each among five, the others being bad: who is told to be kind would gain 1 by not being so, where the other one is kind.
func TestN3ToldAmongFive(t *testing.T) {
	small := of("6,6 2,7 / 7,2 0,0")
	want := chances("1/2 1/4 | 1/4 0")
	for i := range 5 * 5 * 5 * 5 {
		rows, cols := [2]int{i % 5, i / 5 % 5}, [2]int{i / 25 % 5, i / 125}
		if rows[0] == rows[1] || cols[0] == cols[1] {
			continue
		}
		d := die(i)
		g := d.game(5, 5, -9, -5)
		for r, row := range rows {
			for c, col := range cols {
				g.A[row][col], g.B[row][col] = small.A[r][c], small.B[r][c]
			}
		}
		p := told(t, g)
		for r, row := range rows {
			for c, col := range cols {
				if p[row][col] != want[r][c] {
					t.Fatalf("Told(%v): %v", g, p)
				}
			}
		}
	}
}

func TestX2NothingIsChanged(t *testing.T) {
	d := die(5)
	// Behind each list stands something that no call may write to.
	behind := func(a [][]int) [][]int {
		outer := append(slices.Clone(a), []int{77})
		for i := range a {
			outer[i] = append(slices.Clone(a[i]), 88)[:len(a[i])]
		}
		return outer
	}
	whole := func(outer [][]int) string {
		text := fmt.Sprint(outer)
		for _, row := range outer[:len(outer)-1] {
			text += fmt.Sprint(row[:len(row)+1])
		}
		return text
	}
	drawn(func(g api.Game) {
		rows, cols := len(g.A), len(g.A[0])
		a, b := behind(g.A), behind(g.B)
		x, y, flat := append(d.mix(rows), "99"), append(d.mix(cols), "99"), append(d.mix(rows*cols), "99")
		p := slices.Collect(slices.Chunk(flat[:rows*cols], cols))
		for i := range p {
			p[i] = flat[i*cols : (i+1)*cols] // with room behind it
		}
		before := fmt.Sprint(whole(a), whole(b), x, y, flat, p)
		m := api.Mix{X: x[:rows], Y: y[:cols]}
		first := calls(api.Game{A: a[:rows], B: b[:rows]}, m, p, rows)
		if after := fmt.Sprint(whole(a), whole(b), x, y, flat, p); after != before {
			t.Fatalf("changed: %s, was %s", after, before)
		}
		if again := calls(g, m, p, rows); fmt.Sprint(again) != fmt.Sprint(first) {
			t.Fatalf("%v: asked again: %v, was %v", g, again, first)
		}
	})
}

func TestX2FreshAnswers(t *testing.T) {
	drawn(func(g api.Game) {
		m, _ := nash.Find(g, 0)
		p, _ := nash.Told(g)
		all := append([][]api.Q{m.X, m.Y}, p...)
		before := fmt.Sprint(all)
		for _, l := range all {
			_ = append(l, "7")
		}
		if after := fmt.Sprint(all); after != before {
			t.Fatalf("%v: %s, was %s", g, after, before)
		}
		for i, l := range all {
			clear(l)
			for _, other := range all[i+1:] {
				if slices.Contains(other, "") {
					t.Fatalf("%v: lists share memory", g)
				}
			}
		}
	})
}
