package rules_test

import (
	"fmt"
	"math"
	"slices"
	"strings"
	"testing"

	"agora/api"
	"agora/rules"
)

// die draws numbers that look drawn, the same each time.
type die uint64

func (d *die) n(most int) int {
	*d = *d*6364136223846793005 + 1442695040888963407
	return int(uint64(*d>>33) % uint64(most))
}

// the orders of three things, by their numbers.
func ranks() []string { return strings.Fields("012 021 102 120 201 210") }

// above says whether the k-th order ranks x above y.
func above(k, x, y int) bool {
	o := ranks()[k]
	return strings.IndexByte(o, byte('0'+x)) < strings.IndexByte(o, byte('0'+y))
}

// first is what the k-th order ranks first.
func first(k int) int { return int(ranks()[k][0] - '0') }

// rule is what f makes of each profile.
func rule(f func(a, b int) int) []int {
	var l []int
	for a := range 6 {
		for b := range 6 {
			l = append(l, f(a, b))
		}
	}
	return l
}

// constant makes the same of all profiles.
func constant(k int) []int { return slices.Repeat([]int{k}, 36) }

// one and other rank as one of both voters does.
func one() []int   { return rule(func(a, b int) int { return a }) }
func other() []int { return rule(func(a, b int) int { return b }) }

// tops choose what one of both voters ranks first.
func topOfOne() []int   { return rule(func(a, b int) int { return first(a) }) }
func topOfOther() []int { return rule(func(a, b int) int { return first(b) }) }

// changed is a rule with another number at a place.
func changed(l []int, place, k int) []int {
	l = slices.Clone(l)
	l[place] = k
	return l
}

// orderCalls and choiceCalls are all calls, with what each one answers as a text.
func orderCalls(l []int) []string {
	a, e := rules.Agrees(l)
	b, f := rules.Apart(l)
	c, g := rules.Rulers(l)
	return []string{fmt.Sprint(a, e), fmt.Sprint(b, f), fmt.Sprint(c, g)}
}

func choiceCalls(l []int) []string {
	a, e := rules.Onto(l)
	ok, x, y, who, says, f := rules.Honest(l)
	c, g := rules.Choosers(l)
	return []string{fmt.Sprint(a, e), fmt.Sprint(ok, x, y, who, says, f), fmt.Sprint(c, g)}
}

func TestU1Order(t *testing.T) {
	for k, want := range [][3]int{{0, 1, 2}, {0, 2, 1}, {1, 0, 2}, {1, 2, 0}, {2, 0, 1}, {2, 1, 0}} {
		if o, e := rules.Order(k); o != want || e != api.OK {
			t.Errorf("Order(%d): %v, %d, not %v", k, o, e, want)
		}
	}
	for _, k := range []int{-1, 6, 7, 36, math.MinInt, math.MaxInt} {
		if o, e := rules.Order(k); o != [3]int{} || e != api.ErrValue {
			t.Errorf("Order(%d): %v, %d", k, o, e)
		}
	}
}

// Each call says first how many numbers there are, then whether they may be.
func TestU1WrongRules(t *testing.T) {
	orderError := func(l []int, e api.Errno) {
		t.Helper()
		if got, want := orderCalls(l), []string{fmt.Sprint(false, e), fmt.Sprint(false, e), fmt.Sprint([2]bool{}, e)}; !slices.Equal(got, want) {
			t.Errorf("%v: %v, not %v", l, got, want)
		}
	}
	choiceError := func(l []int, e api.Errno) {
		t.Helper()
		if got, want := choiceCalls(l), []string{fmt.Sprint(false, e), fmt.Sprint(false, 0, 0, 0, 0, e), fmt.Sprint([2]bool{}, e)}; !slices.Equal(got, want) {
			t.Errorf("%v: %v, not %v", l, got, want)
		}
	}
	for _, l := range [][]int{nil, {}, {0}, one()[:35], append(one(), 0), append(constant(9), 9), constant(9)[:35], slices.Repeat([]int{0}, 216)} {
		orderError(l, api.ErrCount)
		choiceError(l, api.ErrCount)
	}
	for place := range 36 {
		for _, k := range []int{-1, 6, math.MinInt, math.MaxInt} {
			orderError(changed(one(), place, k), api.ErrValue)
			orderError(changed(constant(0), place, k), api.ErrValue)
		}
		for _, k := range []int{-1, 3, 5, math.MinInt, math.MaxInt} {
			choiceError(changed(topOfOne(), place, k), api.ErrValue)
			choiceError(changed(constant(0), place, k), api.ErrValue)
		}
	}
}

// agrees, apart and rulers are what U2 says, word by word.
func agrees(l []int) bool {
	for i, k := range l {
		for x := range 3 {
			for y := range 3 {
				if above(i/6, x, y) && above(i%6, x, y) && !above(k, x, y) {
					return false
				}
			}
		}
	}
	return true
}

func apart(l []int) bool {
	for x := range 3 {
		for y := range 3 {
			said := map[string]string{}
			for i, k := range l {
				both, now := fmt.Sprint(above(i/6, x, y), above(i%6, x, y)), fmt.Sprint(above(k, x, y))
				if was, ok := said[both]; ok && was != now {
					return false
				}
				said[both] = now
			}
		}
	}
	return true
}

func rulers(l []int) [2]bool { return [2]bool{slices.Equal(l, one()), slices.Equal(l, other())} }

func checkOrderRule(t *testing.T, l []int) {
	t.Helper()
	want := []string{fmt.Sprint(agrees(l), 0), fmt.Sprint(apart(l), 0), fmt.Sprint(rulers(l), 0)}
	if got := orderCalls(l); !slices.Equal(got, want) {
		t.Errorf("%v: %v, not %v", l, got, want)
	}
}

// borda ranks by the sum of both voters' places, and where it is even as the first one does.
func borda() []int {
	return rule(func(a, b int) int {
		sum := func(x int) int {
			n := 0
			for y := range 3 {
				for _, k := range []int{a, b} {
					if above(k, y, x) {
						n += 10
					}
				}
				if above(a, y, x) {
					n++
				}
			}
			return n
		}
		things := []int{0, 1, 2}
		slices.SortFunc(things, func(x, y int) int { return sum(x) - sum(y) })
		return slices.Index(ranks(), fmt.Sprintf("%d%d%d", things[0], things[1], things[2]))
	})
}

func TestU2Examples(t *testing.T) {
	for _, c := range []struct {
		what string
		rule []int
		want string
	}{
		{"as the one does", one(), "[true 0 true 0 [true false] 0]"},
		{"as the other one does", other(), "[true 0 true 0 [false true] 0]"},
		{"the same always", constant(3), "[false 0 true 0 [false false] 0]"},
		{"the other way round", rule(func(a, b int) int { return 5 - a }), "[false 0 false 0 [false false] 0]"},
		{"as the one does, from behind", rule(func(a, b int) int { return []int{5, 3, 4, 1, 2, 0}[a] }), "[false 0 true 0 [false false] 0]"},
		{"by places", borda(), "[true 0 false 0 [false false] 0]"},
		{"as both do if they are of one mind, else the first order", rule(func(a, b int) int {
			if a == b {
				return a
			}
			return 0
		}), "[false 0 false 0 [false false] 0]"},
	} {
		if got := fmt.Sprint(orderCalls(c.rule)); got != c.want {
			t.Errorf("%s: %s, not %s", c.what, got, c.want)
		}
		checkOrderRule(t, c.rule)
	}
}

// One other number, wherever it stands, is seen.
func TestU2OneChange(t *testing.T) {
	for _, l := range [][]int{one(), other(), constant(0), constant(5), borda()} {
		for place := range 36 {
			for k := range 6 {
				checkOrderRule(t, changed(l, place, k))
			}
		}
	}
}

func TestU2Drawn(t *testing.T) {
	d := die(23)
	for i := range 300 {
		mix := []int{2, 6, 12, 36}[i%4]
		checkOrderRule(t, rule(func(a, b int) int {
			if d.n(mix) == 0 {
				return d.n(6)
			}
			return []int{a, b}[i%2]
		}))
	}
}

// What follows: a rule that agrees and is apart has a ruler. Such a rule is told by what it makes of each two things where both voters differ: 2 to the 6th ways, of which those alone are rules that rank all three things.
func TestU2SoThereIsARuler(t *testing.T) {
	var found []string
	for way := range 1 << 6 {
		// over says whether x is ranked above y, for x below y.
		over := func(a, b, x, y int) bool {
			if above(a, x, y) == above(b, x, y) {
				return above(a, x, y)
			}
			bit := x + y - 1
			if above(a, x, y) {
				bit += 3
			}
			return way>>bit&1 == 1
		}
		l := rule(func(a, b int) int {
			return slices.IndexFunc([]int{0, 1, 2, 3, 4, 5}, func(k int) bool {
				return above(k, 0, 1) == over(a, b, 0, 1) && above(k, 0, 2) == over(a, b, 0, 2) && above(k, 1, 2) == over(a, b, 1, 2)
			})
		})
		if slices.Contains(l, -1) {
			continue
		}
		found = append(found, fmt.Sprint(orderCalls(l)))
	}
	slices.Sort(found)
	want := []string{"[true 0 true 0 [false true] 0]", "[true 0 true 0 [true false] 0]"}
	if !slices.Equal(found, want) {
		t.Errorf("rules that agree and are apart: %v", found)
	}
}

// lie is the first lie that pays, by all of them.
func lie(l []int) (ok bool, a, b, who, says int) {
	for i := range 36 * 12 {
		a, b, who, says := i/72, i/12%6, i/6%2, i%6
		own, told := a, 6*says+b
		if who == 1 {
			own, told = b, 6*a+says
		}
		if above(own, l[told], l[6*a+b]) {
			return false, a, b, who, says
		}
	}
	return true, 0, 0, 0, 0
}

func checkChoiceRule(t *testing.T, l []int) {
	t.Helper()
	onto := slices.Contains(l, 0) && slices.Contains(l, 1) && slices.Contains(l, 2)
	ok, a, b, who, says := lie(l)
	want := []string{fmt.Sprint(onto, 0), fmt.Sprint(ok, a, b, who, says, 0), fmt.Sprint([2]bool{slices.Equal(l, topOfOne()), slices.Equal(l, topOfOther())}, 0)}
	if got := choiceCalls(l); !slices.Equal(got, want) {
		t.Errorf("%v: %v, not %v", l, got, want)
	}
}

func TestU3Examples(t *testing.T) {
	for _, c := range []struct {
		what string
		rule []int
		want string
	}{
		{"what the one ranks first", topOfOne(), "[true 0 true 0 0 0 0 0 [true false] 0]"},
		{"what the other one ranks first", topOfOther(), "[true 0 true 0 0 0 0 0 [false true] 0]"},
		{"the same always", constant(2), "[false 0 true 0 0 0 0 0 [false false] 0]"},
		{"0, if one ranks it above 1, else 1", rule(func(a, b int) int {
			if above(a, 0, 1) || above(b, 0, 1) {
				return 0
			}
			return 1
		}), "[false 0 true 0 0 0 0 0 [false false] 0]"},
		{"what both rank first, else 0: by 210 one would rather have 1 than 0", rule(func(a, b int) int {
			if first(a) == first(b) {
				return first(a)
			}
			return 0
		}), "[true 0 false 2 5 1 2 0 [false false] 0]"},
		{"what the one ranks last", rule(func(a, b int) int { return int(ranks()[a][2] - '0') }), "[true 0 false 0 0 0 1 0 [false false] 0]"},
		{"what the other one ranks last", rule(func(a, b int) int { return int(ranks()[b][2] - '0') }), "[true 0 false 0 0 1 1 0 [false false] 0]"},
	} {
		if got := fmt.Sprint(choiceCalls(c.rule)); got != c.want {
			t.Errorf("%s: %s, not %s", c.what, got, c.want)
		}
		checkChoiceRule(t, c.rule)
	}
}

func TestU3Drawn(t *testing.T) {
	d := die(29)
	for i := range 400 {
		mix := []int{1, 6, 12, 36}[i%4]
		checkChoiceRule(t, rule(func(a, b int) int {
			if d.n(mix) == 0 {
				return d.n(3)
			}
			return first([]int{a, b}[i%2])
		}))
	}
}

// honest are all choice rules that are honest: number by number, as long as no lie pays among those that are there.
func honest(l []int) [][]int {
	if len(l) == 36 {
		return [][]int{l}
	}
	var all [][]int
	a, b := len(l)/6, len(l)%6
	for k := range 3 {
		fine := true
		for i, was := range l {
			if i/6 == a {
				fine = fine && !above(b, was, k) && !above(i%6, k, was)
			}
			if i%6 == b {
				fine = fine && !above(a, was, k) && !above(i/6, k, was)
			}
		}
		if fine {
			all = append(all, honest(append(slices.Clone(l), k))...)
		}
	}
	return all
}

// What follows: an honest rule that is onto has a chooser. And one other number makes most honest rules into ones that are not.
func TestU3SoThereIsAChooser(t *testing.T) {
	all := honest(nil)
	if len(all) != 17 {
		t.Fatalf("%d rules are honest, not 17", len(all))
	}
	choosers := 0
	for _, l := range all {
		checkChoiceRule(t, l)
		ok, _, _, _, _, _ := rules.Honest(l)
		onto, _ := rules.Onto(l)
		c, _ := rules.Choosers(l)
		if !ok || onto != (c[0] || c[1]) {
			t.Errorf("%v: honest %v, onto %v, choosers %v", l, ok, onto, c)
		}
		if onto {
			choosers++
		}
		for place := range 36 {
			for k := range 3 {
				checkChoiceRule(t, changed(l, place, k))
			}
		}
	}
	if choosers != 2 {
		t.Errorf("%d rules are honest and onto, not 2", choosers)
	}
}

func TestX1NothingPanics(t *testing.T) {
	d := die(31)
	for range 2000 {
		var l []int
		for range 34 + d.n(4) {
			l = append(l, d.n(8)-1)
		}
		orderCalls(l)
		choiceCalls(l)
	}
}

func TestX2NothingIsWritten(t *testing.T) {
	for _, l := range [][]int{topOfOne(), topOfOther(), constant(1), changed(topOfOne(), 7, 2)} {
		given := slices.Clone(l)
		a, b := orderCalls(l), choiceCalls(l)
		if c, d := orderCalls(l), choiceCalls(l); !slices.Equal(a, c) || !slices.Equal(b, d) {
			t.Errorf("%v: %v, %v, asked again %v, %v", l, a, b, c, d)
		}
		if !slices.Equal(l, given) {
			t.Errorf("%v was written into: %v", given, l)
		}
	}
}
