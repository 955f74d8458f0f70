package match

import (
	"fmt"
	"math"
	"reflect"
	"slices"
	"testing"

	"agora/api"
	"agora/ranks"
)

func agent(name string, room int, likes ...int) api.Agent {
	return api.Agent{Name: name, Room: room, Likes: likes}
}

func pairing(left, right []api.Agent) api.Pairing { return api.Pairing{Left: left, Right: right} }

// session is the document's example: ann, bo, cy and xi, yo, zed.
func session(t *testing.T) api.Pairing {
	p, e := ranks.Parse("left ann : xi yo zed\nleft bo : yo xi zed\nleft cy : xi yo zed\nright xi : bo ann cy\nright yo : ann bo cy\nright zed : ann bo cy\n")
	if e != api.OK {
		t.Fatal(e)
	}
	return p
}

// die draws numbers that look drawn, the same each time.
type die uint64

func (d *die) n(most int) int {
	*d = *d*6364136223846793005 + 1442695040888963407
	return int(uint64(*d>>33) % uint64(most))
}

// some are some of n, in some order; all of them in one of two cases.
func (d *die) some(n int) []int {
	var l []int
	for k := range n {
		l = slices.Insert(l, d.n(len(l)+1), k)
	}
	if n > 0 && d.n(2) == 0 {
		l = l[:d.n(n)]
	}
	return l
}

func (d *die) pairing(most, room int) api.Pairing {
	l, r := d.n(most+1), d.n(most+1)
	var p api.Pairing
	for i := range l {
		p.Left = append(p.Left, agent(fmt.Sprint("a", i), 1, d.some(r)...))
	}
	for i := range r {
		p.Right = append(p.Right, agent(fmt.Sprint("b", i), 1+d.n(room), d.some(l)...))
	}
	return p
}

// everyWith goes through all ways to go with each other as a number that is counted up: the first of the left is its highest digit.
func everyWith(p api.Pairing) [][]int {
	n := 1
	for range p.Left {
		n *= len(p.Right) + 1
	}
	var all [][]int
	for k := range n {
		with := make([]int, len(p.Left))
		for l := len(with) - 1; l >= 0; l-- {
			with[l] = k%(len(p.Right)+1) - 1
			k /= len(p.Right) + 1
		}
		all = append(all, with)
	}
	return all
}

// judge says of a with what M3 does, step by step, in other words than the program.
func judge(p api.Pairing, with []int) (ok bool, left, right int, e api.Errno) {
	has := make([][]int, len(p.Right))
	for l, r := range with {
		if r >= 0 {
			has[r] = append(has[r], l)
		}
	}
	for r, b := range p.Right {
		if len(has[r]) > b.Room {
			return false, 0, 0, api.ErrLimit
		}
	}
	likes := func(l, r int) bool {
		return slices.Contains(p.Left[l].Likes, r) && slices.Contains(p.Right[r].Likes, l)
	}
	for l, r := range with {
		if r >= 0 && !likes(l, r) {
			return false, l, -1, api.OK
		}
	}
	for l, a := range p.Left {
		for r, b := range p.Right {
			if !likes(l, r) || with[l] == r {
				continue
			}
			up := with[l] < 0 || slices.Index(a.Likes, r) < slices.Index(a.Likes, with[l])
			open := len(has[r]) < b.Room
			for _, k := range has[r] {
				open = open || slices.Index(b.Likes, l) < slices.Index(b.Likes, k)
			}
			if up && open {
				return false, l, r, api.OK
			}
		}
	}
	return true, 0, 0, api.OK
}

func same(a, b []int) bool { return slices.Equal(a, b) }

func TestM1May(t *testing.T) {
	x := []api.Agent{agent("x", 4, 0)}
	for _, c := range []struct {
		what string
		p    api.Pairing
		want api.Errno
	}{
		{"none", pairing(nil, nil), api.OK},
		{"room on the right", pairing([]api.Agent{agent("a", 1, 0)}, x), api.OK},
		{"room on the left", pairing([]api.Agent{agent("a", 2, 0)}, x), api.ErrValue},
		{"room on the left, of the last one", pairing([]api.Agent{agent("a", 1), agent("b", 4)}, nil), api.ErrValue},
		{"no room", pairing([]api.Agent{agent("a", 0)}, nil), api.ErrValue},
		{"no room on the right", pairing(nil, []api.Agent{agent("a", 5)}), api.ErrValue},
		{"no name", pairing([]api.Agent{agent("A", 1)}, nil), api.ErrForm},
		{"what ranks says is ahead", pairing([]api.Agent{agent("a", 2)}, []api.Agent{agent("x", 1, 7)}), api.ErrWho},
		{"a double is ahead", pairing([]api.Agent{agent("a", 2), agent("a", 1)}, nil), api.ErrDouble},
		{"too many are ahead", pairing(slices.Repeat([]api.Agent{agent("a", 2)}, api.MaxSide+1), nil), api.ErrLimit},
	} {
		if got := May(c.p); got != c.want {
			t.Errorf("%s: May = %d, want %d", c.what, got, c.want)
		}
		if c.want == api.OK {
			continue
		}
		// All other calls say this ahead of what with is.
		bad := make([]int, 9)
		a, e := Left(c.p)
		b, f := Right(c.p)
		all, g := All(c.p)
		ok, l, r, h := Stable(c.p, bad)
		j, i := Join(c.p, bad, bad)
		m, k := Meet(c.p, bad, bad)
		for n, got := range []api.Errno{e, f, g, h, i, k} {
			if got != c.want {
				t.Errorf("%s: call %d = %d, want %d", c.what, n, got, c.want)
			}
		}
		if len(a)+len(b)+len(all)+len(j)+len(m)+l+r != 0 || ok {
			t.Errorf("%s: something is told with an error", c.what)
		}
	}
}

func TestM2Session(t *testing.T) {
	p := session(t)
	if a, e := Left(p); !same(a, []int{0, 1, 2}) || e != api.OK {
		t.Errorf("Left = %v, %d", a, e)
	}
	if a, e := Right(p); !same(a, []int{1, 0, 2}) || e != api.OK {
		t.Errorf("Right = %v, %d", a, e)
	}
}

func TestM2LeftAndRight(t *testing.T) {
	for _, c := range []struct {
		what        string
		p           api.Pairing
		left, right []int
	}{
		{"none", pairing(nil, nil), nil, nil},
		{"no right", pairing([]api.Agent{agent("a", 1), agent("b", 1)}, nil), []int{-1, -1}, []int{-1, -1}},
		{"no left", pairing(nil, []api.Agent{agent("x", 1)}), nil, nil},
		{"the one does not like the other one", pairing([]api.Agent{agent("a", 1, 0)}, []api.Agent{agent("x", 1)}), []int{-1}, []int{-1}},
		{"nor the other way round", pairing([]api.Agent{agent("a", 1)}, []api.Agent{agent("x", 1, 0)}), []int{-1}, []int{-1}},
		{"room for two of three", pairing([]api.Agent{agent("a", 1, 0), agent("b", 1, 0), agent("c", 1, 0)}, []api.Agent{agent("x", 2, 2, 0, 1)}), []int{0, -1, 0}, []int{0, -1, 0}},
		{"who is refused asks on", pairing([]api.Agent{agent("a", 1, 0, 1), agent("b", 1, 0)}, []api.Agent{agent("x", 1, 1, 0), agent("y", 1, 0, 1)}), []int{1, 0}, []int{1, 0}},
		{"who is asked and has one does not take one it does not like", pairing([]api.Agent{agent("a", 1, 1), agent("b", 1, 1, 0)}, []api.Agent{agent("x", 1, 0, 1), agent("y", 1, 0)}), []int{1, 0}, []int{1, 0}},
		{"sides want opposite things, with room", pairing([]api.Agent{agent("a", 1, 0, 1), agent("b", 1, 0, 1), agent("c", 1, 1, 0), agent("d", 1, 1, 0)}, []api.Agent{agent("x", 2, 2, 3, 0, 1), agent("y", 2, 0, 1, 2, 3)}), []int{0, 0, 1, 1}, []int{1, 1, 0, 0}},
	} {
		if a, e := Left(c.p); !same(a, c.left) || e != api.OK {
			t.Errorf("%s: Left = %v, %d, want %v", c.what, a, e, c.left)
		}
		if a, e := Right(c.p); !same(a, c.right) || e != api.OK {
			t.Errorf("%s: Right = %v, %d, want %v", c.what, a, e, c.right)
		}
	}
}

// What Left gives is the best of all that are stable for each of the left and the worst for the right; Right the other way round.
func TestM2BestAndWorst(t *testing.T) {
	d := die(3)
	for range 400 {
		p := d.pairing(4, 3)
		left, _ := Left(p)
		right, _ := Right(p)
		found := 0
		for _, with := range everyWith(p) {
			if ok, _, _, e := judge(p, with); !ok || e != api.OK {
				continue
			}
			if same(with, left) || same(with, right) {
				found++
			}
			for l, a := range p.Left {
				if rather(a, with[l], left[l]) || rather(a, right[l], with[l]) || (with[l] < 0) != (left[l] < 0) {
					t.Fatalf("%v: %v is stable, Left %v, Right %v", p, with, left, right)
				}
			}
			for r, b := range p.Right {
				if !likesAsWell(b, r, with, left) || !likesAsWell(b, r, right, with) {
					t.Fatalf("%v: %d of the right: Left %v, %v, Right %v", p, r, left, with, right)
				}
			}
		}
		want := 2
		if same(left, right) {
			want = 1
		}
		if found != want {
			t.Fatalf("%v: Left %v, Right %v are not stable", p, left, right)
		}
	}
}

// likesAsWell says whether each one that b has by one with is at least as good as that of the other with.
func likesAsWell(b api.Agent, r int, one, other []int) bool {
	by := func(with []int) []int {
		var l []int
		for k, to := range with {
			if to == r {
				l = append(l, slices.Index(b.Likes, k))
			}
		}
		slices.Sort(l)
		return l
	}
	x, y := by(one), by(other)
	for i := range x {
		if x[i] > y[i] {
			return false
		}
	}
	return len(x) == len(y)
}

// orders are all lists of some of n.
func orders(n int) [][]int {
	all := [][]int{nil}
	for i := 0; i < len(all); i++ {
		for k := range n {
			if !slices.Contains(all[i], k) {
				all = append(all, append(slices.Clone(all[i]), k))
			}
		}
	}
	return all
}

func TestM2ItPaysToBeHonest(t *testing.T) {
	d := die(11)
	for range 200 {
		p := d.pairing(3, 2)
		honest, _ := Left(p)
		for l, a := range p.Left {
			for _, lie := range orders(len(p.Right)) {
				q := pairing(slices.Clone(p.Left), p.Right)
				q.Left[l].Likes = lie
				if got, _ := Left(q); rather(a, got[l], honest[l]) {
					t.Fatalf("%v: %d of the left gets %d by telling %v, honestly %d", p, l, got[l], lie, honest[l])
				}
			}
		}
	}
}

func TestM3WithMayBe(t *testing.T) {
	p := pairing([]api.Agent{agent("a", 1, 0), agent("b", 1, 0), agent("c", 1)}, []api.Agent{agent("x", 1, 0, 1), agent("y", 2)})
	fine := []int{0, -1, -1}
	for _, c := range []struct {
		with []int
		want api.Errno
	}{
		{nil, api.ErrCount}, {[]int{0, 1}, api.ErrCount}, {[]int{-1, -1, -1, -1}, api.ErrCount}, {[]int{7, 0}, api.ErrCount},
		{[]int{0, 2, -1}, api.ErrWho}, {[]int{-2, -1, -1}, api.ErrWho}, {[]int{0, -1, math.MaxInt}, api.ErrWho}, {[]int{math.MinInt, 0, 0}, api.ErrWho}, {[]int{0, 0, 9}, api.ErrWho},
		{[]int{0, 0, -1}, api.ErrLimit}, {[]int{1, 1, 1}, api.ErrLimit}, {[]int{0, -1, 0}, api.ErrLimit},
	} {
		if ok, l, r, e := Stable(p, c.with); ok || l != 0 || r != 0 || e != c.want {
			t.Errorf("Stable(%v) = %v, %d, %d, %d, want error %d", c.with, ok, l, r, e, c.want)
		}
		for _, call := range []func(api.Pairing, []int, []int) ([]int, api.Errno){Join, Meet} {
			if got, e := call(p, c.with, fine); len(got) != 0 || e != c.want {
				t.Errorf("first %v: %v, %d, want error %d", c.with, got, e, c.want)
			}
			if got, e := call(p, fine, c.with); len(got) != 0 || e != c.want {
				t.Errorf("second %v: %v, %d, want error %d", c.with, got, e, c.want)
			}
			// The first one's fault is told, even where the second one's would stand ahead.
			if got, e := call(p, c.with, nil); len(got) != 0 || e != c.want {
				t.Errorf("first %v, second nil: %v, %d, want error %d", c.with, got, e, c.want)
			}
		}
	}
}

func TestM3Stable(t *testing.T) {
	p := pairing(
		[]api.Agent{agent("a", 1, 0, 1), agent("b", 1, 0, 1), agent("c", 1, 1, 0), agent("d", 1, 1)},
		[]api.Agent{agent("x", 2, 2, 0, 1), agent("y", 1, 1, 2, 0)})
	for _, c := range []struct {
		with        []int
		ok          bool
		left, right int
	}{
		{[]int{0, 0, 1, -1}, true, 0, 0},
		{[]int{0, 1, 0, -1}, true, 0, 0},
		{[]int{-1, -1, -1, -1}, false, 0, 0},
		{[]int{0, -1, -1, -1}, false, 1, 0},
		{[]int{0, -1, 0, -1}, false, 1, 1},   // x has room no more, and likes both better
		{[]int{0, -1, 1, -1}, false, 1, 0},   // x has room
		{[]int{1, 0, 0, -1}, false, 0, 0},    // x would rather have a than b
		{[]int{-1, -1, -1, 1}, false, 3, -1}, // d likes y, y does not like d
		{[]int{-1, -1, -1, 0}, false, 3, -1}, // nor do d and x like each other
		{[]int{0, 0, -1, -1}, false, 2, 0},   // x has no room, but likes c better
	} {
		if ok, l, r, e := Stable(p, c.with); ok != c.ok || l != c.left || r != c.right || e != api.OK {
			t.Errorf("Stable(%v) = %v, %d, %d, %d, want %v, %d, %d", c.with, ok, l, r, e, c.ok, c.left, c.right)
		}
	}
	if ok, l, r, e := Stable(pairing(nil, p.Right[:0]), nil); !ok || l != 0 || r != 0 || e != api.OK {
		t.Errorf("nobody there: %v, %d, %d, %d", ok, l, r, e)
	}
	// All that go with one they should not are ahead of all two that would go: the first pair would tell 0, 0.
	q := pairing([]api.Agent{agent("a", 1, 0), agent("b", 1)}, []api.Agent{agent("x", 1, 0), agent("y", 1, 1)})
	if ok, l, r, _ := Stable(q, []int{-1, 1}); ok || l != 1 || r != -1 {
		t.Errorf("Stable = %v, %d, %d, want false, 1, -1", ok, l, r)
	}
}

func TestM3AllWaysOfSmallOnes(t *testing.T) {
	d := die(5)
	for range 300 {
		p := d.pairing(3, 3)
		for _, with := range everyWith(p) {
			ok, l, r, e := Stable(p, with)
			wok, wl, wr, we := judge(p, with)
			if ok != wok || l != wl || r != wr || e != we {
				t.Fatalf("%v: Stable(%v) = %v, %d, %d, %d, want %v, %d, %d, %d", p, with, ok, l, r, e, wok, wl, wr, we)
			}
		}
	}
}

func TestM4All(t *testing.T) {
	if all, e := All(session(t)); e != api.OK || !reflect.DeepEqual(all, [][]int{{0, 1, 2}, {1, 0, 2}}) {
		t.Errorf("All = %v, %d", all, e)
	}
	if all, e := All(pairing(nil, nil)); e != api.OK || len(all) != 1 || len(all[0]) != 0 {
		t.Errorf("nobody there: All = %v, %d", all, e)
	}
	if all, e := All(pairing([]api.Agent{agent("a", 1)}, nil)); e != api.OK || !reflect.DeepEqual(all, [][]int{{-1}}) {
		t.Errorf("one alone: All = %v, %d", all, e)
	}
	d := die(17)
	for range 400 {
		p := d.pairing(4, 3)
		var want [][]int
		for _, with := range everyWith(p) {
			if ok, _, _, e := judge(p, with); ok && e == api.OK {
				want = append(want, with)
			}
		}
		if got, e := All(p); e != api.OK || fmt.Sprint(got) != fmt.Sprint(want) {
			t.Fatalf("%v: All = %v, %d, want %v", p, got, e, want)
		}
	}
}

// A full pairing, everyone of which likes everyone, has the most ways to go through.
func TestM4AllOfAFullOne(t *testing.T) {
	for _, room := range []int{1, api.MaxRoom} {
		var p api.Pairing
		for i := range api.MaxSide {
			var up, down []int
			for k := range api.MaxSide {
				up = append(up, (i+k)%api.MaxSide)
				down = append(down, (i+1+k)%api.MaxSide)
			}
			p.Left = append(p.Left, agent(fmt.Sprint("a", i), 1, up...))
			p.Right = append(p.Right, agent(fmt.Sprint("b", i), room, down...))
		}
		all, e := All(p)
		want := api.MaxSide
		if room > 1 {
			want = 1
		}
		if len(all) != want || e != api.OK {
			t.Errorf("room %d: %d stable ones, %d, want %d", room, len(all), e, want)
		}
	}
}

func TestM4JoinAndMeet(t *testing.T) {
	p := pairing(
		[]api.Agent{agent("a", 1, 1, 0), agent("b", 1, 1)},
		[]api.Agent{agent("x", 4), agent("y", 4), agent("z", 4)})
	for _, c := range []struct{ a, b, join, meet []int }{
		{[]int{0, 1}, []int{1, 1}, []int{1, 1}, []int{0, 1}},
		{[]int{1, -1}, []int{0, 1}, []int{1, 1}, []int{0, -1}},     // one that it likes is better than nobody
		{[]int{-1, 0}, []int{2, -1}, []int{-1, -1}, []int{2, 0}},   // nobody is better than one that it does not like
		{[]int{0, 0}, []int{2, 1}, []int{0, 1}, []int{2, 0}},       // and so is one that it likes
		{[]int{-1, 0}, []int{-1, 2}, []int{-1, 0}, []int{-1, 2}},   // two that it does not like are the same to it
		{[]int{2, 2}, []int{2, 0}, []int{2, 2}, []int{2, 0}},       // the other way round too
		{[]int{-1, -1}, []int{1, 1}, []int{1, 1}, []int{-1, -1}},   // whole lists
		{[]int{-1, -1}, []int{2, 2}, []int{-1, -1}, []int{2, 2}},   // and ones that nobody likes
		{[]int{0, -1}, []int{-1, -1}, []int{0, -1}, []int{-1, -1}}, // the second best is better than nobody
	} {
		if got, e := Join(p, c.a, c.b); e != api.OK || !same(got, c.join) {
			t.Errorf("Join(%v, %v) = %v, %d, want %v", c.a, c.b, got, e, c.join)
		}
		if got, e := Meet(p, c.a, c.b); e != api.OK || !same(got, c.meet) {
			t.Errorf("Meet(%v, %v) = %v, %d, want %v", c.a, c.b, got, e, c.meet)
		}
	}
	// Both answers are told as they are, even if the right would have too many.
	q := pairing([]api.Agent{agent("a", 1, 0, 1), agent("b", 1, 0, 1)}, []api.Agent{agent("x", 1, 0, 1), agent("y", 1, 0, 1)})
	if got, e := Join(q, []int{0, 1}, []int{1, 0}); e != api.OK || !same(got, []int{0, 0}) {
		t.Errorf("Join = %v, %d", got, e)
	}
	if got, e := Join(pairing(nil, nil), nil, nil); e != api.OK || len(got) != 0 {
		t.Errorf("nobody there: Join = %v, %d", got, e)
	}
}

func TestM4JoinAndMeetOfStableOnesAreStable(t *testing.T) {
	d := die(23)
	for range 400 {
		p := d.pairing(5, 2)
		all, _ := All(p)
		for _, a := range all {
			for _, b := range all {
				up, e := Join(p, a, b)
				down, f := Meet(p, a, b)
				if e != api.OK || f != api.OK || !told(all, up) || !told(all, down) {
					t.Fatalf("%v: Join(%v, %v) = %v, %d, Meet %v, %d", p, a, b, up, e, down, f)
				}
			}
		}
	}
}

func told(all [][]int, with []int) bool {
	return slices.ContainsFunc(all, func(l []int) bool { return same(l, with) })
}

// Nothing that is handed in is written into, and what comes out shares nothing with it nor with each other.
func TestX2InputsAndAnswers(t *testing.T) {
	d := die(29)
	for range 100 {
		p := d.pairing(5, 3)
		before := fmt.Sprint(p)
		a, _ := Left(p)
		b, _ := Right(p)
		kept := fmt.Sprint(a, b)
		all, _ := All(p)
		Stable(p, a)
		up, _ := Join(p, a, a)
		down, _ := Meet(p, b, b)
		told := fmt.Sprint(all)
		for _, l := range [][]int{up, down} {
			for i := range l {
				l[i] = 99
			}
		}
		if fmt.Sprint(p) != before || fmt.Sprint(a, b) != kept {
			t.Fatalf("written into: %v %v %v, was %s %s", p, a, b, before, kept)
		}
		for _, l := range all {
			_ = append(l, 99)
		}
		_ = append(a, 99)
		_ = append(b, 99)
		if fmt.Sprint(all) != told {
			t.Fatalf("lists of an answer share memory: %v, was %s", all, told)
		}
		if again, _ := All(p); fmt.Sprint(again) != told {
			t.Fatalf("asked again: %v, was %s", again, told)
		}
	}
}
