package ranks

import (
	"fmt"
	"math"
	"reflect"
	"strings"
	"testing"

	"agora/api"
)

func agent(name string, room int, likes ...int) api.Agent {
	return api.Agent{Name: name, Room: room, Likes: likes}
}

func pairing(left, right []api.Agent) api.Pairing { return api.Pairing{Left: left, Right: right} }

// many are so many of a side, whose names begin alike.
func many(prefix string, n int) []api.Agent {
	var l []api.Agent
	for i := range n {
		l = append(l, agent(fmt.Sprint(prefix, i), 1))
	}
	return l
}

// plain lets empty lists be the same whether they are nil or not.
func plain(p api.Pairing) string { return fmt.Sprintf("%+v", p) }

// names says of words whether they are names.
func names() map[string]bool {
	return map[string]bool{
		"a": true, "z": true, "az09_": true, "a_": true, "a__b": true, "lefty": true, "rightx": true, "abcdefghijkl": true, "l2345678901_": true,
		"": false, "_a": false, "1a": false, "0": false, "A": false, "aB": false, "a-b": false, "a b": false, "a.": false, ":": false, "#a": false, "left": false, "right": false,
		"abcdefghijklm": false, "\u00e4": false, "a\u00e4": false, "a\u0661": false, "a\xff": false, "a\x00": false, "a\n": false, "`": false, "a{": false, "a/": false, "a:": false, "a`": false, "a^": false, "a@": false, "a[": false,
	}
}

func TestR1May(t *testing.T) {
	one := []api.Agent{agent("x", 1)}
	for _, c := range []struct {
		what string
		p    api.Pairing
		want api.Errno
	}{
		{"none", pairing(nil, nil), api.OK},
		{"one side", pairing(many("a", 2), nil), api.OK},
		{"likes", pairing([]api.Agent{agent("a", 1, 1, 0), agent("b", 4)}, []api.Agent{agent("x", 2, 1), agent("y", 3, 0, 1)}), api.OK},
		{"full", pairing(many("a", api.MaxSide), many("b", api.MaxSide)), api.OK},
		{"left too long", pairing(many("a", api.MaxSide+1), nil), api.ErrLimit},
		{"right too long", pairing(nil, many("a", api.MaxSide+1)), api.ErrLimit},
		{"too long ahead of all", pairing([]api.Agent{agent("A", 9)}, many("a", api.MaxSide+1)), api.ErrLimit},
		{"twice on the left", pairing([]api.Agent{agent("a", 1), agent("a", 1)}, nil), api.ErrDouble},
		{"twice on the right", pairing(nil, []api.Agent{agent("a", 1), agent("b", 1), agent("a", 1)}), api.ErrDouble},
		{"on both sides", pairing([]api.Agent{agent("a", 1)}, []api.Agent{agent("a", 1)}), api.ErrDouble},
		{"room 0", pairing([]api.Agent{agent("a", 0)}, nil), api.ErrValue},
		{"room -1", pairing(nil, []api.Agent{agent("a", -1)}), api.ErrValue},
		{"room too great", pairing(nil, []api.Agent{agent("a", api.MaxRoom+1)}), api.ErrValue},
		{"room greatest", pairing(nil, []api.Agent{agent("a", math.MaxInt)}), api.ErrValue},
		{"likes nobody there", pairing([]api.Agent{agent("a", 1, 0, 1)}, one), api.ErrWho},
		{"likes -1", pairing([]api.Agent{agent("a", 1, -1)}, one), api.ErrWho},
		{"likes the least", pairing([]api.Agent{agent("a", 1, math.MinInt)}, one), api.ErrWho},
		{"right likes nobody there", pairing(nil, []api.Agent{agent("a", 1, 0)}), api.ErrWho},
		{"places are of the other side", pairing(many("a", 2), []api.Agent{agent("x", 1, 1)}), api.OK},
		{"likes twice", pairing([]api.Agent{agent("a", 1, 0, 0)}, one), api.ErrDouble},
		{"likes twice, then nobody there", pairing([]api.Agent{agent("a", 1, 0, 0, 5)}, one), api.ErrDouble},
		{"nobody there, then twice", pairing([]api.Agent{agent("a", 1, 5, 0, 0)}, one), api.ErrWho},
		{"nobody there, twice", pairing([]api.Agent{agent("a", 1, 5, 5)}, one), api.ErrWho},
		{"no name ahead of room", pairing([]api.Agent{agent("", 0)}, nil), api.ErrForm},
		{"double ahead of room", pairing([]api.Agent{agent("a", 1), agent("a", 0)}, nil), api.ErrDouble},
		{"room ahead of likes", pairing([]api.Agent{agent("a", 0, 7)}, nil), api.ErrValue},
		{"the first one's likes ahead of the second one's name", pairing([]api.Agent{agent("a", 1, 7), agent("A", 1)}, nil), api.ErrWho},
		{"the left one ahead of the right one", pairing([]api.Agent{agent("a", 0)}, []api.Agent{agent("A", 1)}), api.ErrValue},
	} {
		if got := May(c.p); got != c.want {
			t.Errorf("%s: May = %d, want %d", c.what, got, c.want)
		}
		if s, e := Print(c.p); e != c.want || e != api.OK && s != "" {
			t.Errorf("%s: Print = %q, %d, want %d", c.what, s, e, c.want)
		}
	}
}

func TestR1Names(t *testing.T) {
	for name, ok := range names() {
		want := api.OK
		if !ok {
			want = api.ErrForm
		}
		if got := May(pairing([]api.Agent{agent(name, 1)}, nil)); got != want {
			t.Errorf("%q on the left: May = %d, want %d", name, got, want)
		}
		if got := May(pairing(nil, []api.Agent{agent(name, 1)})); got != want {
			t.Errorf("%q on the right: May = %d, want %d", name, got, want)
		}
	}
}

func TestR1Rank(t *testing.T) {
	a := agent("a", 1, 4, 0, 2, 0, -3)
	for other, want := range map[int]int{4: 0, 0: 1, 2: 2, -3: 4, 1: -1, 3: -1, -1: -1, math.MaxInt: -1, math.MinInt: -1} {
		if got := Rank(a, other); got != want {
			t.Errorf("Rank(%d) = %d, want %d", other, got, want)
		}
	}
	if got := Rank(api.Agent{}, 0); got != -1 {
		t.Errorf("Rank of one that likes nobody = %d", got)
	}
}

func TestR2Parse(t *testing.T) {
	text := "# two sides\n\nleft ann 1 : xi yo\n \t \n  right\txi 3 :  bo\t\tann \t\n#left zed\nleft bo :\n\t# x\nright yo:\n"
	if _, e := Parse(text); e != api.ErrWord {
		t.Errorf("yo: is no name: %d", e)
	}
	p, e := Parse(strings.Replace(text, "yo:", "yo 4 : ann", 1))
	want := pairing([]api.Agent{agent("ann", 1, 0, 1), agent("bo", 1)}, []api.Agent{agent("xi", 3, 1, 0), agent("yo", 4, 0)})
	if e != api.OK || plain(p) != plain(want) {
		t.Errorf("Parse = %+v, %d, want %+v", p, e, want)
	}
	for _, empty := range []string{"", "\n", " \t\n\n", "#", "# left", "#left a :", " \t#x y\n"} {
		if p, e := Parse(empty); e != api.OK || len(p.Left)+len(p.Right) != 0 {
			t.Errorf("Parse(%q) = %+v, %d", empty, p, e)
		}
	}
}

func TestR2Faults(t *testing.T) {
	for _, c := range []struct {
		text string
		want api.Errno
	}{
		{"up", api.ErrWord}, {"up a :", api.ErrWord}, {"Left a :", api.ErrWord}, {"a left :", api.ErrWord}, {": left a", api.ErrWord}, {"left# a :", api.ErrWord}, {"leftright a :", api.ErrWord},
		{"left", api.ErrShort}, {"right", api.ErrShort}, {"left\n", api.ErrShort},
		{"left :", api.ErrWord}, {"left 1 :", api.ErrWord}, {"left A :", api.ErrWord}, {"left left :", api.ErrWord}, {"right left :", api.ErrWord}, {"left abcdefghijklm :", api.ErrWord}, {"left # a", api.ErrWord},
		{"left a :\nleft a", api.ErrDouble}, {"right a :\nright a x", api.ErrDouble}, {"left a :\nright a :", api.ErrDouble}, {"right a :\nleft a :", api.ErrDouble},
		{"left a", api.ErrShort}, {"left a 1", api.ErrShort}, {"left a 4", api.ErrShort},
		{"left a x :", api.ErrWord}, {"left a 01 :", api.ErrWord}, {"left a 00", api.ErrWord}, {"left a -1 :", api.ErrWord}, {"left a +1 :", api.ErrWord}, {"left a 1.0 :", api.ErrWord}, {"left a 1_0 :", api.ErrWord}, {"left a 0x1 :", api.ErrWord}, {"left a 1: b", api.ErrWord}, {"left a \u0661 :", api.ErrWord}, {"left a ::", api.ErrWord}, {"left a :b", api.ErrWord}, {"left a 1a", api.ErrWord},
		{"left a 0 :", api.ErrValue}, {"left a 0", api.ErrValue}, {"left a 5 :", api.ErrValue}, {"left a 5 x", api.ErrValue}, {"left a 18446744073709551617 :", api.ErrValue}, {"left a 1" + strings.Repeat("0", 500) + " :", api.ErrValue},
		{"left a 1 2 :", api.ErrWord}, {"left a 1 1", api.ErrWord}, {"left a 2 b :", api.ErrWord}, {"left a 1 :b", api.ErrWord},
		{"left a : B", api.ErrWord}, {"left a : :", api.ErrWord}, {"left a : 1", api.ErrWord}, {"left a : left", api.ErrWord}, {"left a : b right", api.ErrWord}, {"left a : b #c", api.ErrWord}, {"left a : b\r", api.ErrWord}, {"left a :\r\n", api.ErrWord}, {"left\u00a0a :", api.ErrWord}, {"left\va :", api.ErrWord}, {"left a : b\xff", api.ErrWord}, {"left a : abcdefghijklm", api.ErrWord},
		{"left a : b", api.ErrName}, {"left a : a", api.ErrName}, {"left a : b\nleft b :", api.ErrName}, {"right b : a", api.ErrName},
		{"left a : b b\nright b :", api.ErrDouble}, {"left a :\nright b : a a", api.ErrDouble},
		{"left a : b b c\nright b :", api.ErrDouble}, {"left a : c b b\nright b :", api.ErrName}, {"left a : c c", api.ErrName},
		{"left a : c\nright b : a a", api.ErrName}, {"right b : a a\nleft a : c", api.ErrDouble}, {"right b : c\nleft a : b b", api.ErrName}, {"left a : b b\nright b : c", api.ErrDouble},
		{"left a : c\nright b", api.ErrShort}, {"left a : b b\nright b :\nup", api.ErrWord},
		{"left a\nup", api.ErrShort}, {"up\nleft a", api.ErrWord},
	} {
		if p, e := Parse(c.text); e != c.want || !reflect.DeepEqual(p, api.Pairing{}) {
			t.Errorf("Parse(%q) = %+v, %d, want error %d", c.text, p, e, c.want)
		}
	}
}

func TestR2Names(t *testing.T) {
	for name, ok := range names() {
		if name == "" || strings.ContainsAny(name, " \n") {
			continue
		}
		for _, text := range []string{"left " + name + " :", "right q_ :\nleft p_ : q_\nright " + name + " : p_", "left p_ : " + name + "\nright " + name + " :"} {
			if _, e := Parse(text); (e == api.OK) != ok || !ok && e != api.ErrWord {
				t.Errorf("Parse(%q): %d", text, e)
			}
		}
	}
}

func TestR2Limits(t *testing.T) {
	long := strings.Repeat("#", api.MaxText)
	if _, e := Parse(long); e != api.OK {
		t.Errorf("MaxText bytes: %d", e)
	}
	for _, text := range []string{long + "#", "up\n" + long, strings.Repeat("\n", api.MaxText+1), strings.Repeat("\u00e4", api.MaxText/2) + "x"} {
		if p, e := Parse(text); e != api.ErrLimit || !reflect.DeepEqual(p, api.Pairing{}) {
			t.Errorf("%d bytes: %+v, %d", len(text), p, e)
		}
	}
	full, e := Print(pairing(many("a", api.MaxSide), many("b", api.MaxSide)))
	if _, f := Parse(full); e != api.OK || f != api.OK {
		t.Errorf("full sides: %d, %d", e, f)
	}
	for line, want := range map[string]api.Errno{"left c :": api.ErrLimit, "right c x": api.ErrLimit, "left c": api.ErrLimit, "left a0": api.ErrDouble, "right a0": api.ErrDouble, "left C": api.ErrWord, "left": api.ErrShort} {
		if _, e := Parse(full + line); e != want {
			t.Errorf("%q behind full sides: %d, want %d", line, e, want)
		}
	}
}

func TestR3Print(t *testing.T) {
	for _, c := range []struct {
		p    api.Pairing
		want string
	}{
		{pairing(nil, nil), ""},
		{pairing(nil, []api.Agent{agent("x", 1)}), "right x :\n"},
		{pairing([]api.Agent{agent("ann", 1, 1, 0), agent("bo", 4)}, []api.Agent{agent("xi", 2, 1), agent("yo", 1, 0, 1)}), "left ann : yo xi\nleft bo 4 :\nright xi 2 : bo\nright yo : ann bo\n"},
	} {
		if got, e := Print(c.p); got != c.want || e != api.OK {
			t.Errorf("Print(%+v) = %q, %d, want %q", c.p, got, e, c.want)
		}
	}
}

// sample is a pairing that hangs on seed: all sizes, rooms and lists come up.
func sample(seed int) api.Pairing {
	draw := func(most int) int {
		seed = (seed*1103515245 + 12345) & (1<<31 - 1)
		return (seed >> 12) % most
	}
	p := pairing(many("l_", draw(api.MaxSide+1)), many("abcdefghijk", draw(api.MaxSide+1)))
	fill := func(side []api.Agent, others int) {
		for i := range side {
			side[i].Room = 1 + draw(api.MaxRoom)
			for range draw(2*others + 1) {
				if k := draw(others); Rank(side[i], k) < 0 {
					side[i].Likes = append(side[i].Likes, k)
				}
			}
		}
	}
	fill(p.Left, len(p.Right))
	fill(p.Right, len(p.Left))
	return p
}

func TestR3ParseOfPrint(t *testing.T) {
	for seed := range 2000 {
		p := sample(seed)
		before := plain(p)
		text, e := Print(p)
		q, f := Parse(text)
		if e != api.OK || f != api.OK || plain(q) != before {
			t.Fatalf("Parse of Print = %+v, %d, %d, want %s", q, e, f, before)
		}
		if plain(p) != before {
			t.Fatalf("what was handed in was written into: %+v, was %s", p, before)
		}
		if again, _ := Print(q); again != text {
			t.Fatalf("Print of Parse = %q, want %q", again, text)
		}
	}
}

// No two lists of an answer may share memory: what is laid behind one is not to be seen in another.
func TestX2AnswersShareNothing(t *testing.T) {
	text := "left a : x y\nleft b : y\nright x : a b\nright y : b\n"
	p, _ := Parse(text)
	for _, side := range [][]api.Agent{p.Left, p.Right} {
		_ = append(side, agent("other", 9))
		for _, a := range side {
			_ = append(a.Likes, 7)
		}
	}
	if got, e := Print(p); got != text || e != api.OK {
		t.Errorf("lists share memory: %q, %d", got, e)
	}
	for i := range p.Left {
		p.Left[i] = agent("other", 9, 9)
	}
	if q, e := Parse(text); e != api.OK || q.Left[0].Name != "a" {
		t.Errorf("asked again: %+v, %d", q, e)
	}
}

// Whatever words stand in whatever order: no call panics, and what is read may be.
func TestX1AllShortTexts(t *testing.T) {
	words := []string{"left", "right", "a", "b", "2", "0", ":", "\n", "#"}
	var try func(text string, deep int)
	try = func(text string, deep int) {
		p, e := Parse(text)
		if e != api.OK && !reflect.DeepEqual(p, api.Pairing{}) || e == api.OK && May(p) != api.OK {
			t.Fatalf("Parse(%q) = %+v, %d", text, p, e)
		}
		if deep == 0 {
			return
		}
		for _, w := range words {
			try(text+w+" ", deep-1)
		}
	}
	try("", 5)
	try("left a : b \n right b ", 4)
}
