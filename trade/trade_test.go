package trade

import (
	"fmt"
	"math"
	"slices"
	"testing"

	"agora/api"
)

// die draws numbers that look drawn, the same each time.
type die uint64

func (d *die) n(most int) int {
	*d = *d*6364136223846793005 + 1442695040888963407
	return int(uint64(*d>>33) % uint64(most))
}

func (d *die) order(n int) []int {
	var l []int
	for k := range n {
		l = slices.Insert(l, d.n(len(l)+1), k)
	}
	return l
}

func (d *die) wishes(n int) [][]int {
	var w [][]int
	for range n {
		w = append(w, d.order(n))
	}
	return w
}

// everyOrder are all orders of n.
func everyOrder(n int) [][]int {
	all := [][]int{nil}
	for k := range n {
		var longer [][]int
		for _, l := range all {
			for i := range k + 1 {
				longer = append(longer, slices.Insert(slices.Clone(l), i, k))
			}
		}
		all = longer
	}
	return all
}

// everyWishes are all wishes of n traders.
func everyWishes(n int) [][][]int {
	all := [][][]int{nil}
	for range n {
		var longer [][][]int
		for _, w := range all {
			for _, o := range everyOrder(n) {
				longer = append(longer, append(slices.Clone(w), o))
			}
		}
		all = longer
	}
	return all
}

// identity are wishes of n of whom each likes its own thing best.
func identity(n int) [][]int {
	var w [][]int
	for k := range n {
		o := []int{k}
		for i := range n {
			if i != k {
				o = append(o, i)
			}
		}
		w = append(w, o)
	}
	return w
}

func same(a, b []int) bool { return slices.Equal(a, b) }

// likes says whether a trader whose wish it is would rather have a than b.
func likes(wish []int, a, b int) bool { return slices.Index(wish, a) < slices.Index(wish, b) }

// blocked says of got what T4 does: the least set (0: there is none), by all ways to share out all things of which none of the set leaves it.
func blocked(wishes [][]int, got []int) int {
	n := len(wishes)
	for set := 1; set < 1<<n; set++ {
		for _, o := range everyOrder(n) {
			fine, gain := true, false
			for k, thing := range o {
				if set>>k&1 == 1 {
					fine = fine && set>>thing&1 == 1 && !likes(wishes[k], got[k], thing)
					gain = gain || likes(wishes[k], thing, got[k])
				}
			}
			if fine && gain {
				return set
			}
		}
	}
	return 0
}

// badOrders are lists that are no orders of two, with what is said of them.
func badOrders() []fault {
	return []fault{
		{nil, api.ErrCount}, {[]int{0}, api.ErrCount}, {[]int{0, 1, 2}, api.ErrCount}, {[]int{0, 1, 1}, api.ErrCount}, {[]int{7}, api.ErrCount},
		{[]int{0, 2}, api.ErrWho}, {[]int{2, 0}, api.ErrWho}, {[]int{-1, 0}, api.ErrWho}, {[]int{0, -1}, api.ErrWho}, {[]int{2, 2}, api.ErrWho}, {[]int{math.MinInt, math.MaxInt}, api.ErrWho},
		{[]int{0, 0}, api.ErrDouble}, {[]int{1, 1}, api.ErrDouble},
	}
}

type fault struct {
	order []int
	want  api.Errno
}

func TestT1May(t *testing.T) {
	for n := range api.MaxTraders + 1 {
		if e := May(identity(n)); e != api.OK {
			t.Errorf("%d traders: %d", n, e)
		}
	}
	ok := []int{1, 0}
	type test struct {
		what   string
		wishes [][]int
		want   api.Errno
	}
	tests := []test{
		{"too many", identity(api.MaxTraders + 1), api.ErrLimit},
		{"too many is ahead", make([][]int, api.MaxTraders+1), api.ErrLimit},
		{"a double ahead of one that is not there", [][]int{{0, 0, 3}, {0, 1, 2}, {0, 1, 2}}, api.ErrDouble},
		{"one that is not there ahead of a double", [][]int{{0, 3, 0}, {0, 1, 2}, {0, 1, 2}}, api.ErrWho},
		{"the first one's double ahead of the second one's count", [][]int{{0, 0}, {0}}, api.ErrDouble},
		{"the first one's count ahead of the second one's double", [][]int{{0}, {0, 0}}, api.ErrCount},
		{"one alone", [][]int{{}}, api.ErrCount},
	}
	for _, b := range badOrders() {
		tests = append(tests, test{"the first", [][]int{b.order, ok}, b.want}, test{"the last", [][]int{ok, b.order}, b.want})
	}
	for _, c := range tests {
		if got := May(c.wishes); got != c.want {
			t.Errorf("%s: May(%v) = %d, want %d", c.what, c.wishes, got, c.want)
		}
		// All other calls say this ahead of what they say of their second list.
		bad := []int{9}
		a, e := Rounds(c.wishes)
		b, f := Turns(c.wishes, bad)
		in, who, g := Core(c.wishes, bad)
		if e != c.want || f != c.want || g != c.want || len(a)+len(b) != 0 || in || who != 0 {
			t.Errorf("%s: %v: %v %d, %v %d, %v %d %d, want error %d", c.what, c.wishes, a, e, b, f, in, who, g, c.want)
		}
	}
}

func TestT2Rounds(t *testing.T) {
	for _, c := range []struct {
		wishes [][]int
		want   []int
	}{
		{nil, nil},
		{[][]int{{0}}, []int{0}},
		{[][]int{{1, 0}, {0, 1}}, []int{1, 0}},
		{[][]int{{1, 0}, {1, 0}}, []int{0, 1}},
		{[][]int{{1, 2, 0}, {2, 0, 1}, {0, 1, 2}}, []int{1, 2, 0}},
		{[][]int{{1, 2, 0}, {0, 2, 1}, {0, 1, 2}}, []int{1, 0, 2}},
		{[][]int{{1, 0, 2}, {2, 0, 1}, {1, 0, 2}}, []int{0, 2, 1}},
		{[][]int{{2, 1, 3, 0}, {2, 0, 1, 3}, {3, 2, 0, 1}, {2, 3, 0, 1}}, []int{1, 0, 3, 2}},
		{[][]int{{5, 0, 1, 2, 3, 4}, {0, 1, 2, 3, 4, 5}, {1, 0, 2, 3, 4, 5}, {2, 3, 0, 1, 4, 5}, {3, 4, 0, 1, 2, 5}, {5, 4, 3, 2, 1, 0}}, []int{0, 1, 2, 3, 4, 5}},
		{[][]int{{1, 0, 2, 3, 4, 5}, {2, 0, 1, 3, 4, 5}, {3, 0, 1, 2, 4, 5}, {4, 0, 1, 2, 3, 5}, {5, 0, 1, 2, 3, 4}, {0, 1, 2, 3, 4, 5}}, []int{1, 2, 3, 4, 5, 0}},
	} {
		if got, e := Rounds(c.wishes); e != api.OK || !same(got, c.want) {
			t.Errorf("Rounds(%v) = %v, %d, want %v", c.wishes, got, e, c.want)
		}
	}
}

// What Rounds gives is in the core, and nothing else is.
func TestT2RoundsIsTheCore(t *testing.T) {
	d := die(1)
	all := append(everyWishes(2), everyWishes(3)...)
	for range 60 {
		all = append(all, d.wishes(4))
	}
	for range 3 {
		all = append(all, d.wishes(5))
	}
	for _, w := range all {
		got, e := Rounds(w)
		if e != api.OK || blocked(w, got) != 0 {
			t.Fatalf("Rounds(%v) = %v, %d: blocked by %d", w, got, e, blocked(w, got))
		}
		for _, o := range everyOrder(len(w)) {
			if ok, _, e := Core(w, o); e != api.OK || ok != same(o, got) {
				t.Fatalf("Core(%v, %v) = %v, %d, where Rounds gives %v", w, o, ok, e, got)
			}
		}
	}
}

func TestT2RoundsIsHonest(t *testing.T) {
	d := die(2)
	all := everyWishes(3)
	for range 100 {
		all = append(all, d.wishes(4))
	}
	for range 5 {
		all = append(all, d.wishes(api.MaxTraders))
	}
	for _, w := range all {
		honest, _ := Rounds(w)
		for k := range w {
			for _, lie := range everyOrder(len(w)) {
				told := slices.Clone(w)
				told[k] = lie
				if got, _ := Rounds(told); likes(w[k], got[k], honest[k]) {
					t.Fatalf("%v: %d gets %d by %v, else %d", w, k, got[k], lie, honest[k])
				}
			}
		}
	}
}

func TestT2Turns(t *testing.T) {
	w := [][]int{{1, 0, 2}, {1, 2, 0}, {1, 0, 2}}
	for _, c := range []struct{ turn, want []int }{
		{[]int{0, 1, 2}, []int{1, 2, 0}}, {[]int{0, 2, 1}, []int{1, 2, 0}}, {[]int{1, 0, 2}, []int{0, 1, 2}}, {[]int{1, 2, 0}, []int{2, 1, 0}}, {[]int{2, 0, 1}, []int{0, 2, 1}}, {[]int{2, 1, 0}, []int{0, 2, 1}},
	} {
		if got, e := Turns(w, c.turn); e != api.OK || !same(got, c.want) {
			t.Errorf("Turns(%v, %v) = %v, %d, want %v", w, c.turn, got, e, c.want)
		}
	}
	if got, e := Turns(nil, nil); e != api.OK || len(got) != 0 {
		t.Errorf("Turns of nobody = %v, %d", got, e)
	}
	for _, c := range badOrders() {
		if got, e := Turns(identity(2), c.order); e != c.want || len(got) != 0 {
			t.Errorf("Turns by %v = %v, %d, want error %d", c.order, got, e, c.want)
		}
	}
	if got, e := Turns(nil, []int{0}); e != api.ErrCount || len(got) != 0 {
		t.Errorf("Turns of nobody, by one = %v, %d", got, e)
	}
}

// Each has the best thing but for those that somebody ahead of it has.
func TestT2TurnsTakesTheBest(t *testing.T) {
	d := die(3)
	for range 500 {
		n := 1 + d.n(api.MaxTraders)
		w, turn := d.wishes(n), d.order(n)
		got, e := Turns(w, turn)
		if e != api.OK || !same(slices.Sorted(slices.Values(got)), slices.Sorted(slices.Values(turn))) {
			t.Fatalf("Turns(%v, %v) = %v, %d: no order", w, turn, got, e)
		}
		for i, k := range turn {
			for _, late := range turn[i+1:] {
				if likes(w[k], got[late], got[k]) {
					t.Fatalf("Turns(%v, %v) = %v: %d would rather have %d", w, turn, got, k, got[late])
				}
			}
		}
	}
}

// schools is a market of T3.
type schools struct {
	wishes [][]int
	room   []int
	firsts [][]int
}

func (d *die) schools() schools {
	n, k := d.n(api.MaxTraders+1), d.n(api.MaxTraders+1)
	var m schools
	for range n {
		m.wishes = append(m.wishes, d.order(k)[:d.n(k+1)])
	}
	for range k {
		m.room = append(m.room, d.n(4)*d.n(3)*d.n(2))
		m.firsts = append(m.firsts, d.order(n))
	}
	for i := range m.room {
		m.room[i] = min(m.room[i], api.MaxTraders)
	}
	return m
}

// byHand goes by T3, a ring at a time, in an order that the die draws: it marks whom all point at, and takes one that comes back to itself.
func (m schools) byHand(d *die) []int {
	room := slices.Clone(m.room)
	got := make([]int, len(m.wishes))
	there := make([]bool, len(m.wishes))
	for k := range there {
		there[k] = true
	}
	for slices.Contains(there, true) {
		school, next := make([]int, len(got)), make([]int, len(got))
		for k, w := range m.wishes {
			school[k], next[k] = -1, -1
			for _, s := range slices.Backward(w) {
				if room[s] > 0 {
					school[k] = s
				}
			}
			if school[k] >= 0 {
				for _, f := range slices.Backward(m.firsts[school[k]]) {
					if there[f] {
						next[k] = f
					}
				}
			}
		}
		k := d.n(len(got))
		if !there[k] {
			continue
		}
		if school[k] < 0 {
			got[k], there[k] = -1, false
			continue
		}
		ring := []int{k}
		at := next[k]
		for range got {
			if at != k && at >= 0 {
				ring = append(ring, at)
				at = next[at]
			}
		}
		if at != k {
			continue
		}
		for _, k := range ring {
			got[k], there[k] = school[k], false
			room[school[k]]--
		}
	}
	return got
}

func TestT3Schools(t *testing.T) {
	for _, c := range []struct {
		what string
		m    schools
		want []int
	}{
		{"nobody", schools{}, nil},
		{"no school", schools{wishes: [][]int{{}, nil}}, []int{-1, -1}},
		{"no trader", schools{room: []int{0, api.MaxTraders}, firsts: [][]int{{}, nil}}, nil},
		{"no room", schools{[][]int{{0, 1}, {0}}, []int{0, 1}, [][]int{{0, 1}, {1, 0}}}, []int{1, -1}},
		{"no wish", schools{[][]int{{}, {0}}, []int{2}, [][]int{{0, 1}}}, []int{-1, 0}},
		{"room for all", schools{[][]int{{0}, {0}, {0}}, []int{3}, [][]int{{2, 0, 1}}}, []int{0, 0, 0}},
		{"room for two", schools{[][]int{{0}, {0}, {0}}, []int{2}, [][]int{{2, 0, 1}}}, []int{0, -1, 0}},
		{"a swap of firsts", schools{[][]int{{0, 1}, {1, 0}}, []int{1, 1}, [][]int{{1, 0}, {0, 1}}}, []int{0, 1}},
		{"the first one takes another", schools{[][]int{{1, 0}, {0, 1}, {0, 1}}, []int{1, 1}, [][]int{{0, 2, 1}, {1, 2, 0}}}, []int{1, 0, -1}},
		{"a school's second one, when the first has gone", schools{[][]int{{1}, {0}, {0}}, []int{1, 1}, [][]int{{0, 2, 1}, {0, 1, 2}}}, []int{1, -1, 0}},
		{"who wishes none gives way", schools{[][]int{{}, {0}, {0}}, []int{1}, [][]int{{0, 1, 2}}}, []int{-1, 0, -1}},
		{"one with room for many", schools{[][]int{{0, 1}, {1, 0}, {0, 1}, {1, 0}}, []int{api.MaxTraders, api.MaxTraders}, [][]int{{3, 2, 1, 0}, {0, 2, 1, 3}}}, []int{0, 1, 0, 1}},
	} {
		if got, e := Schools(c.m.wishes, c.m.room, c.m.firsts); e != api.OK || !same(got, c.want) {
			t.Errorf("%s: %v: Schools = %v, %d, want %v", c.what, c.m, got, e, c.want)
		}
	}
}

func TestT3InAnyOrder(t *testing.T) {
	d := die(4)
	for range 3000 {
		m := d.schools()
		got, e := Schools(m.wishes, m.room, m.firsts)
		if e != api.OK {
			t.Fatalf("Schools of %v: %d", m, e)
		}
		for range 3 {
			if want := m.byHand(&d); !same(got, want) {
				t.Fatalf("Schools of %v = %v, want %v", m, got, want)
			}
		}
	}
}

// Where each thing has room for one, and its owner comes first, Schools is Rounds.
func TestT3LikeRounds(t *testing.T) {
	for _, w := range everyWishes(3) {
		a, _ := Rounds(w)
		b, e := Schools(w, []int{1, 1, 1}, identity(3))
		if e != api.OK || !same(a, b) {
			t.Fatalf("%v: Rounds %v, Schools %v, %d", w, a, b, e)
		}
	}
}

func TestT3Faults(t *testing.T) {
	n := api.MaxTraders + 1
	none := make([][]int, n)
	w, f := [][]int{{0}, {1, 0}}, [][]int{{0, 1}, {1, 0}}
	type test struct {
		what string
		m    schools
		want api.Errno
	}
	tests := []test{
		{"too many traders", schools{none, nil, nil}, api.ErrLimit},
		{"too many schools", schools{nil, make([]int, n), none}, api.ErrLimit},
		{"too many schools are ahead of the count", schools{nil, make([]int, n), nil}, api.ErrLimit},
		{"too many firsts are a wrong count", schools{nil, make([]int, n-1), none}, api.ErrCount},
		{"too few firsts", schools{w, []int{1, 1}, f[:1]}, api.ErrCount},
		{"too many firsts", schools{w, []int{1}, f}, api.ErrCount},
		{"the count is ahead of wishes", schools{[][]int{{9}}, []int{1}, nil}, api.ErrCount},
		{"no such school", schools{[][]int{{0}, {0, 2}}, []int{1, 1}, f}, api.ErrWho},
		{"no such school, below", schools{[][]int{{-1}, {0}}, []int{1, 1}, f}, api.ErrWho},
		{"no school at all", schools{[][]int{{0}}, nil, nil}, api.ErrWho},
		{"a school twice", schools{[][]int{{0, 0}, {0}}, []int{1, 1}, f}, api.ErrDouble},
		{"twice ahead of no such one", schools{[][]int{{0, 0, 7}, {0}}, []int{1, 1}, f}, api.ErrDouble},
		{"no such one ahead of twice", schools{[][]int{{0, 7, 0}, {0}}, []int{1, 1}, f}, api.ErrWho},
		{"the first one's wishes are ahead of the second one's", schools{[][]int{{0, 0}, {9}}, []int{1, 1}, f}, api.ErrDouble},
		{"wishes are ahead of firsts", schools{[][]int{{0, 0}, {0}}, []int{9, 1}, [][]int{{}, {}}}, api.ErrDouble},
		{"firsts are ahead of room", schools{w, []int{-1, 1}, [][]int{{0, 0}, {0, 1}}}, api.ErrDouble},
		{"room of the first school ahead of firsts of the second one", schools{w, []int{-1, 1}, [][]int{{0, 1}, {0, 0}}}, api.ErrValue},
		{"room below 0", schools{w, []int{0, -1}, f}, api.ErrValue},
		{"too much room", schools{w, []int{n, 0}, f}, api.ErrValue},
		{"room of the least", schools{w, []int{math.MinInt, 0}, f}, api.ErrValue},
		{"room of the greatest", schools{w, []int{0, math.MaxInt}, f}, api.ErrValue},
		{"room without traders", schools{nil, []int{n}, [][]int{nil}}, api.ErrValue},
		{"firsts without traders", schools{nil, []int{1}, [][]int{{0}}}, api.ErrCount},
	}
	for _, b := range badOrders() {
		tests = append(tests, test{"the first", schools{w, []int{1, 1}, [][]int{b.order, f[1]}}, b.want}, test{"the last", schools{w, []int{1, 1}, [][]int{f[0], b.order}}, b.want})
	}
	for _, c := range tests {
		if got, e := Schools(c.m.wishes, c.m.room, c.m.firsts); e != c.want || len(got) != 0 {
			t.Errorf("%s: %v: Schools = %v, %d, want error %d", c.what, c.m, got, e, c.want)
		}
	}
}

func TestT4Core(t *testing.T) {
	for _, c := range []struct {
		what   string
		wishes [][]int
		got    []int
		who    int
	}{
		{"nobody", nil, nil, 0},
		{"one", [][]int{{0}}, []int{0}, 0},
		{"one alone has something worse than its own", [][]int{{0, 1}, {0, 1}}, []int{1, 0}, 1},
		{"the other one alone", [][]int{{1, 0}, {1, 0}}, []int{1, 0}, 2},
		{"two would swap", [][]int{{1, 0}, {0, 1}}, []int{0, 1}, 3},
		{"one gains, the other one has the same", [][]int{{1, 0, 2}, {0, 2, 1}, {0, 1, 2}}, []int{1, 2, 0}, 3},
		{"all three go round", [][]int{{1, 0, 2}, {2, 1, 0}, {0, 2, 1}}, []int{0, 1, 2}, 7},
		{"the first of two that have worse ones than their own", [][]int{{1, 0, 2}, {0, 1, 2}, {2, 0, 1}}, []int{0, 2, 1}, 2},
		{"two whose number is less than that of one alone", [][]int{{1, 2, 0}, {0, 2, 1}, {2, 0, 1}}, []int{2, 1, 0}, 3},
		{"nobody gains by the same again", identity(6), []int{0, 1, 2, 3, 4, 5}, 0},
		{"the last two", [][]int{{0, 1, 2, 3, 4, 5}, {1, 0, 2, 3, 4, 5}, {2, 0, 1, 3, 4, 5}, {3, 0, 1, 2, 4, 5}, {5, 4, 0, 1, 2, 3}, {4, 5, 0, 1, 2, 3}}, []int{0, 1, 2, 3, 4, 5}, 48},
	} {
		ok, who, e := Core(c.wishes, c.got)
		if b := blocked(c.wishes, c.got); len(c.wishes) < 6 && b != c.who {
			t.Errorf("%s: the test says %d, by hand it is %d", c.what, c.who, b)
		}
		if e != api.OK || ok != (c.who == 0) || who != c.who {
			t.Errorf("%s: Core(%v, %v) = %v, %d, %d, want %d", c.what, c.wishes, c.got, ok, who, e, c.who)
		}
	}
	for _, c := range badOrders() {
		if ok, who, e := Core(identity(2), c.order); e != c.want || ok || who != 0 {
			t.Errorf("Core of %v = %v, %d, %d, want error %d", c.order, ok, who, e, c.want)
		}
	}
	if ok, who, e := Core(nil, []int{0}); e != api.ErrCount || ok || who != 0 {
		t.Errorf("Core of nobody, who got one thing = %v, %d, %d", ok, who, e)
	}
}

func TestT4FirstSet(t *testing.T) {
	d := die(5)
	for _, w := range everyWishes(3) {
		for _, got := range everyOrder(3) {
			checkCore(t, w, got)
		}
	}
	for range 300 {
		n := 4 + d.n(2)
		checkCore(t, d.wishes(n), d.order(n))
	}
	for range 5 {
		checkCore(t, d.wishes(6), d.order(6))
	}
}

func checkCore(t *testing.T, w [][]int, got []int) {
	t.Helper()
	want := blocked(w, got)
	if ok, who, e := Core(w, got); e != api.OK || ok != (want == 0) || who != want {
		t.Fatalf("Core(%v, %v) = %v, %d, %d, want %d", w, got, ok, who, e, want)
	}
}

// No call writes into what is handed in, or answers otherwise when it is asked again.
func TestX2NothingIsWritten(t *testing.T) {
	d := die(6)
	for range 300 {
		n := d.n(api.MaxTraders + 1)
		w, o, m := d.wishes(n), d.order(n), d.schools()
		before := fmt.Sprint(w, o, m)
		ask := func() string {
			a, e := Rounds(w)
			b, f := Turns(w, o)
			c, g := Schools(m.wishes, m.room, m.firsts)
			ok, who, h := Core(w, o)
			told := fmt.Sprint(a, e, b, f, c, g, ok, who, h)
			for _, l := range [][]int{a, b, c} {
				for i := range l {
					l[i] = 99
				}
				_ = append(l, 99)
			}
			return told
		}
		if first, second := ask(), ask(); first != second || fmt.Sprint(w, o, m) != before {
			t.Fatalf("%s: then %s; now %v %v %v: %s", before, first, w, o, m, second)
		}
	}
}

// Whatever lists there are: no call panics, and with an error nothing else is told.
func TestX1AnyLists(t *testing.T) {
	d := die(7)
	list := func() []int {
		var l []int
		for range d.n(5) {
			l = append(l, []int{0, 1, 2, 3, -1, 7, math.MaxInt, math.MinInt}[min(d.n(8), d.n(8))])
		}
		return l
	}
	for range 20000 {
		var w, f [][]int
		for range d.n(4) {
			w = append(w, list())
		}
		for range d.n(4) {
			f = append(f, list())
		}
		a, e := Rounds(w)
		b, g := Turns(w, list())
		c, h := Schools(w, list(), f)
		ok, who, i := Core(w, list())
		if e != May(w) || e != api.OK && len(a) != 0 || g != api.OK && len(b) != 0 || h != api.OK && len(c) != 0 || i != api.OK && (ok || who != 0) {
			t.Fatalf("%v, %v: %v %d, %v %d, %v %d, %v %d %d", w, f, a, e, b, g, c, h, ok, who, i)
		}
	}
}
