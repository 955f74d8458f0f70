package agora_test

import (
	"fmt"
	"regexp"
	"strconv"
	"strings"
	"testing"

	"agora/agora"
	"agora/api"
	"agora/match"
	"agora/nash"
	"agora/ranks"
	"agora/share"
	"agora/vote"
)

func TestS2Sides(t *testing.T) {
	hold(t, []both{
		{"sides|end", "ok|"},
		{"sides|||end", "ok|"},
		{"sides|# none|end|left|right|stable", "ok|stable 1|"},
		{"sides|left a : x|end", "error 5|"},
		{"sides|left a : x|right x : a a|end", "error 6|"},
		{"sides|left a|end", "error 4|"},
		{"sides|left a 0 :|end", "error 9|"},
		{"sides|left a 1 :|end", "ok|"},
		{"sides|left a 2 :|end", "error 9|"},
		{"sides|left a 5 :|end", "error 9|"},
		{"sides|left a 2 : x|end", "error 5|"}, // what Parse says comes first
		{"sides|right a 4 :|end", "ok|"},
		{"sides|right a 5 :|end", "error 9|"},
		{"sides|left a :left b :|end", "error 3|"},
		{"sides|  left\ta :  x |||right x : a|end|left", "ok|a x|"},
		{"sides|left a :|left b :|left c :|left d :|left e :|left f :|left g :|end", "error 2|"},
	})
}

// numeral is what a number looks like, line a row of them.
const numeral = `(?:0|-?[1-9][0-9]{0,6})`

var line = regexp.MustCompile(`^(?:` + numeral + `(?: ` + numeral + `)*)?$`)

// texts tells all texts of these letters, of at most so many.
func texts(letters string, most int, f func(s string)) {
	f("")
	if most == 0 {
		return
	}
	for _, r := range letters {
		texts(letters, most-1, func(s string) { f(string(r) + s) })
	}
}

func TestS2RowsOfAllShortTexts(t *testing.T) {
	texts("01-+ x\t", 5, func(s string) {
		bad := !line.MatchString(s)
		for _, word := range []string{"goods", "game", "ballots"} {
			got := agora.Session(word + "\n" + s + "\nend\n")
			if (got == "error 3\n") != bad {
				t.Errorf("%s: %q: %q", word, s, got)
			}
		}
		if got := agora.Session("bids " + s); (got == "bad\n") != (bad || s == "") {
			t.Errorf("bids %q: %q", s, got)
		}
	})
}

func TestS2Numbers(t *testing.T) {
	for _, c := range []struct {
		word string
		want string
	}{
		{"0", "ok"}, {"1000", "ok"}, {"1001", "error 9"}, {"-1", "error 9"}, {"9999999", "error 9"}, {"-9999999", "error 9"},
		{"1234567", "error 9"}, {"12345678", "error 3"}, {"-12345678", "error 3"}, {"00000001", "error 3"}, {"0000001", "error 3"},
		{"10000000", "error 3"}, {"99999999999999999999", "error 3"}, {"00", "error 3"}, {"01", "error 3"}, {"-0", "error 3"}, {"-01", "error 3"},
		{"-", "error 3"}, {"--1", "error 3"}, {"+1", "error 3"}, {"1-", "error 3"}, {"1e2", "error 3"}, {"0x1", "error 3"}, {"1_0", "error 3"},
		{"1.0", "error 3"}, {"1/1", "error 3"}, {"1,2", "error 3"}, {"1\t2", "error 3"}, {"1  2", "error 3"}, {" 1", "error 3"}, {"1 ", "error 3"},
		{" ", "error 3"}, {"", "ok"}, {"٣", "error 3"}, {"1\x00", "error 3"}, {"1\r", "error 3"}, {"\xff", "error 3"}, {"−1", "error 3"},
	} {
		if got := agora.Session("goods\n" + c.word + "\nend"); got != c.want+"\n" {
			t.Errorf("goods %q: %q, not %q", c.word, got, c.want)
		}
	}
}

func TestS2Ballots(t *testing.T) {
	hold(t, []both{
		{"ballots|end", "error 7|"},
		{"ballots||end", "error 7|"},
		{"ballots|3|end", "error 7|"},
		{"ballots|3 0|end|borda", "ok|0|"},
		{"ballots|0 0 1|end|borda", "ok|0 0|"},
		{"ballots|1000 0 1|end|borda", "ok|1000 0|"},
		{"ballots|1001 0 1|end", "error 9|"},
		{"ballots|-1 0 1|end", "error 9|"},
		{"ballots|3 1 2|end", "error 8|"},
		{"ballots|3 0 0|end", "error 6|"},
		{"ballots|3 0 -1|end", "error 8|"},
		{"ballots|3 0 1|3 0|end", "error 7|"},
		{"ballots|3 0|3 0 1|end", "error 7|"},
		{"ballots|3 0 1|3 1 0 2|end", "error 7|"},
		{"ballots|3 0 1||end", "error 7|"},
		{"ballots||3 0 1|end", "error 7|"},
		{"ballots|3 0 5||end", "error 7|"}, // a row without a Count comes ahead of what vote.May says
		{"ballots|3 0 5|x|end", "error 3|"},
		{"ballots|3 0 5||01|end", "error 3|"},
		{"ballots|3 0 1|2 0 0|9999 1 0|end", "error 6|"},
		{"ballots|3 0 1 2 3 4 5|end|condorcet", "ok|0|"},
		{"ballots|3 0 1 2 3 4 5 6|end", "error 7|"},
		{"ballots|" + strings.Repeat("1 1 0|", 30) + "end|borda", "ok|0 30|"},
		{"ballots|" + strings.Repeat("1 1 0|", 31) + "end", "error 2|"},
		{"ballots|" + strings.Repeat("1 1 1|", 31) + "end", "error 2|"},
	})
}

func TestS2Game(t *testing.T) {
	hold(t, []both{
		{"game|end", "error 7|"},
		{"game||end", "error 7|"},
		{"game|1|end", "error 7|"},
		{"game|1 2|end", "ok|"},
		{"game|1 2 3|end", "error 7|"},
		{"game|1000 2 3|end", "error 7|"}, // an odd number comes first
		{"game|1000 2|1|end", "error 7|"},
		{"game|1|1000 2|end", "error 7|"},
		{"game|1000 2|1 2|end", "error 9|"},
		{"game|1 1000|1 2|end", "error 9|"},
		{"game|-1000 2|end", "error 9|"},
		{"game|-999 999|end|zero", "ok|-999|"},
		{"game|1 2|3 4|end", "ok|"},
		{"game|1 2|3 4 5 6|end", "error 7|"},
		{"game|1 2||end", "error 7|"},
		{"game|1 2|1|y|end", "error 3|"},
		{"game|1 2 1 2 1 2 1 2 1 2|end", "ok|"},
		{"game|1 2 1 2 1 2 1 2 1 2 1 2|end", "error 7|"},
		{"game|1 2|1 2|1 2|1 2|1 2|end", "ok|"},
		{"game|1 2|1 2|1 2|1 2|1 2|1 2|end", "error 7|"},
		{"game|1 2|1 2|1 2|1 2|1 2|1 1000|end", "error 7|"},
		{"game|0 0 0 1|0 2 0 0|end|pure", "ok|pure 0-1 1-0|"},
		{"game|1 0 0 0|0 0 2 0|end|pure|zero", "ok|pure 0-0 1-1|2/3|"},
		{"game|7 1 2 8|end|zero|pure", "ok|2|pure 0-1|"}, // the second one has two moves, the first one has none to choose
	})
}

func TestS2Goods(t *testing.T) {
	hold(t, []both{
		{"goods|end", "error 7|"},
		{"goods||end|turns|even|circles|knife", "ok|||0|error 7|"},
		{"goods||||end|turns|even|circles|knife", "ok|||0|error 7|"},
		{"goods||1|end", "error 7|"},
		{"goods|1||end", "error 7|"},
		{"goods|||||end", "ok|"},
		{"goods||||||end", "error 7|"},
		{"goods|1|end|turns", "ok|0|"},
		{"goods|1|2|3|4|end|turns", "ok|0|"},
		{"goods|1|2|3|4|5|end", "error 7|"},
		{"goods|1 2 3 4 5 6 7 8|end|turns", "ok|0 0 0 0 0 0 0 0|"},
		{"goods|1 2 3 4 5 6 7 8 9|end", "error 7|"},
		{"goods|1001|end", "error 9|"},
		{"goods|-1|end", "error 9|"},
		{"goods|1001|1 2|end", "error 7|"},
		{"goods|1 2|1|end", "error 7|"},
		{"goods|1 2|1001|01|end", "error 3|"},
	})
}

// said writes what is said of something that is to be laid down.
func said(e api.Errno) string {
	if e == api.OK {
		return "ok\n"
	}
	return fmt.Sprintf("error %d\n", e)
}

// drawnRows draws rows of numbers, and how they are written; at times one that is none.
func drawnRows(d *die, rows func() []int, many int) (l [][]int, text string, ok bool) {
	ok = true
	for range many {
		row := rows()
		line := join(row)
		if d.n(40) == 0 {
			line, ok = pick(d, "01", "-0", "x", " ", line+" ", "1  2", "12345678"), false
		}
		l = append(l, row)
		text += line + "\n"
	}
	return l, text, ok
}

// wantRows holds what is said of drawn rows to what a layer says of them.
func wantRows(t *testing.T, word, text string, ok bool, e api.Errno) {
	t.Helper()
	want := said(e)
	if !ok {
		want = "error 3\n"
	}
	if got := agora.Session(word + "\n" + text + "end\n"); got != want {
		t.Errorf("%s %q: %q, not %q", word, text, got, want)
	}
}

func TestS2RowsAsTheLayersSay(t *testing.T) {
	d := die(2)
	for range 4000 {
		n := 1 + d.n(6)
		l, text, ok := drawnRows(&d, func() []int {
			return append([]int{pick(&d, 3, 3, 3, 3, 1001, -1)}, pick(&d, d.order(n), d.order(n), d.order(n), d.list(n, 0, n), d.order(n+1))...)
		}, 1+d.n(4))
		var b []api.Ballot
		for _, row := range l {
			b = append(b, api.Ballot{Count: row[0], Order: row[1:]})
		}
		wantRows(t, "ballots", text, ok, vote.May(len(l[0])-1, b))

		cols := 1 + d.n(6)
		l, text, ok = drawnRows(&d, func() []int {
			return d.list(2*pick(&d, cols, cols, cols, cols, cols, cols, cols, cols+1, 0), pick(&d, -999, -999, -1001), 999)
		}, 1+d.n(6))
		var g api.Game
		for _, row := range l {
			var a, b []int
			for i := 0; i < len(row); i += 2 {
				a, b = append(a, row[i]), append(b, row[i+1])
			}
			g.A, g.B = append(g.A, a), append(g.B, b)
		}
		wantRows(t, "game", text, ok, nash.May(g))

		cols = d.n(10)
		l, text, ok = drawnRows(&d, func() []int {
			return d.list(pick(&d, cols, cols, cols, cols, cols, cols, cols+1), pick(&d, 0, 0, 0, -9), pick(&d, 1000, 1000, 1000, 1030))
		}, 1+d.n(5))
		wantRows(t, "goods", text, ok, share.May(l))
	}
}

// sides draws two sides as a text; at times one that may not be.
func (d *die) sides() string {
	lines, name := "", func(side string, k int) string { return side + strconv.Itoa(k) }
	left, right := d.n(6), d.n(6)
	for _, s := range []struct {
		side, own, others string
		many, other, room int
	}{{"left", "l", "r", left, right, 1}, {"right", "r", "l", right, left, 3}} {
		for k := range s.many {
			lines += s.side + " " + name(s.own, k) + pick(d, "", "", " "+strconv.Itoa(1+d.n(s.room))) + pick(d, " :", " :", " :", " :", " :", " :", " :", " :", " 2 :", " x")
			likes := d.order(s.other)
			for _, who := range likes[:d.n(len(likes)+1)] {
				lines += pick(d, " ", "  ", "\t") + name(s.others, who)
			}
			lines += pick(d, "\n", "\n", "\n", "\n\n", "\n# and\n")
		}
	}
	return lines
}

func TestS2SidesAsTheLayersSay(t *testing.T) {
	d, laid := die(3), 0
	for range 3000 {
		text := d.sides()
		p, e := ranks.Parse(text)
		if e == api.OK {
			e = match.May(p)
		}
		if e == api.OK {
			laid++
		}
		if got := agora.Session("sides\n" + text + "end\n"); got != said(e) {
			t.Errorf("%q: %q, not %q", text, got, said(e))
		}
	}
	if laid < 500 || laid > 2500 {
		t.Errorf("%d of 3000 are laid down: the draw tells too little", laid)
	}
}
