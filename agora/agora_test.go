package agora_test

import (
	"fmt"
	"slices"
	"strings"
	"testing"

	"agora/agora"
	"agora/api"
)

// die draws numbers that look drawn, the same each time.
type die uint64

func (d *die) n(most int) int {
	*d = *d*6364136223846793005 + 1442695040888963407
	return int(uint64(*d>>33) % uint64(most))
}

// pick draws one of some.
func pick[T any](d *die, l ...T) T { return l[d.n(len(l))] }

// list draws n numbers from least to most.
func (d *die) list(n, least, most int) []int {
	l := make([]int, n)
	for i := range l {
		l[i] = least + d.n(most-least+1)
	}
	return l
}

// order draws an order of n.
func (d *die) order(n int) []int {
	l := []int{}
	for i := range n {
		l = slices.Insert(l, d.n(i+1), i)
	}
	return l
}

// join writes numbers with a blank between.
func join(l []int) string { return strings.Trim(fmt.Sprint(l), "[]") }

// both: what a session is asked, and what it is to answer, each written with | for a newline.
type both struct{ asked, want string }

// broken writes | as a newline.
func broken(s string) string { return strings.ReplaceAll(s, "|", "\n") }

// hold holds the program to what it is to answer, with and without a newline behind the last line.
func hold(t *testing.T, cases []both) {
	t.Helper()
	for _, c := range cases {
		asked, want := broken(c.asked), broken(c.want)
		if got := agora.Session(asked); got != want {
			t.Errorf("%q: %q, not %q", asked, got, want)
		}
		if got := agora.Session(asked + "\n"); asked != "" && !strings.HasSuffix(asked, "\n") && got != want {
			t.Errorf("%q and a newline: %q, not %q", asked, got, want)
		}
	}
}

// example is the document's.
const example = `sides
left ann : xi yo zed
left bo : yo xi zed
left cy : xi yo zed
right xi : bo ann cy
right yo : ann bo cy
right zed : ann bo cy
end                     => ok
left                    => ann xi|bo yo|cy zed
right                   => ann yo|bo xi|cy zed
stable                  => stable 2
ballots
3 0 1 2
2 1 2 0
2 2 0 1
end                     => ok
condorcet               => -1
schulze                 => 0
runoff                  => 2 1 0
kemeny                  => 0 1 2
borda                   => 8 7 6
votes 340 280 160 60 15 => ok
quota 7                 => 476/171 392/171 224/171 28/57 7/57
hamilton 7              => 3 2 1 1 0
divide 4 7              => 3 3 1 0 0
worths 0 0 0 6 0 6 6 9  => ok
shapley                 => 3 3 3
core                    => there
worths 0 0 0 6 0 6 6 8  => ok
core                    => empty
game
3 3 0 5
5 0 1 1
end                     => ok
pure                    => pure 1-1
zero                    => 1
goods
5 3 1
1 4 2
end                     => ok
turns                   => 0 1 0
even                    => 0 1 1
knife                   => 0..9/10 9/10..3
bids 5 9 7              => ok
clock                   => 1 7
foo                     => bad
quota 201               => error 2
`

func TestS1Example(t *testing.T) {
	asked, want := "", ""
	for line := range strings.Lines(example) {
		ask, answer, answered := strings.Cut(strings.TrimSuffix(line, "\n"), "=>")
		asked += strings.TrimRight(ask, " ") + "\n"
		if answered {
			want += broken(strings.TrimSpace(answer)) + "\n"
		}
	}
	if got := agora.Session(asked); got != want {
		t.Errorf("%q, not %q", got, want)
	}
}

func TestS1Lines(t *testing.T) {
	hold(t, []both{
		{"", ""},
		{"|", "bad|"},
		{"||", "bad|bad|"},
		{"foo", "bad|"},
		{"foo||", "bad|bad|"},
		{"|foo", "bad|bad|"},
		{"bids 5||clock", "ok|bad|0 0|"},
		{"bids 5\r|bids 5", "bad|ok|"},
		{"bids 5\x00", "bad|"},
		{"bids 5\u2028bids 5", "bad|"},
	})
}

func TestS1TooLong(t *testing.T) {
	line := func(n int) string { return strings.Repeat("x", n) }
	for _, c := range []struct {
		name, text, want string
	}{
		{"500 lines", strings.Repeat("x\n", 500), strings.Repeat("bad\n", 500)},
		{"500 lines, the last one open", strings.Repeat("x\n", 499) + "x", strings.Repeat("bad\n", 500)},
		{"501 lines", strings.Repeat("x\n", 501), "too long\n"},
		{"501 lines, the last one open", strings.Repeat("x\n", 500) + "x", "too long\n"},
		{"500 empty lines", strings.Repeat("\n", 500), strings.Repeat("bad\n", 500)},
		{"501 empty lines", strings.Repeat("\n", 501), "too long\n"},
		{"501 lines of which the first asks", "bids 5\n" + strings.Repeat("x\n", 500), "too long\n"},
		{"501 lines within something", "sides\n" + strings.Repeat("\n", 499) + "end\n", "too long\n"},
		{"500 lines within something", "sides\n" + strings.Repeat("\n", 498) + "end\n", "ok\n"},
		{"MaxText bytes", line(api.MaxText), "bad\n"},
		{"MaxText bytes with the newline", line(api.MaxText-1) + "\n", "bad\n"},
		{"a byte more", line(api.MaxText + 1), "too long\n"},
		{"a newline more", line(api.MaxText) + "\n", "too long\n"},
		{"bytes, not runes", strings.Repeat("ä", api.MaxText/2+1), "too long\n"},
		{"as many runes", strings.Repeat("ä", api.MaxText/2), "bad\n"},
		{"MaxText bytes within something", "sides\n#" + line(api.MaxText-7), "ok\n"},
		{"a byte more within something", "sides\n#" + line(api.MaxText-6), "too long\n"},
		{"both", strings.Repeat("\n", api.MaxText+1), "too long\n"},
	} {
		if got := agora.Session(c.text); got != c.want {
			t.Errorf("%s: %.40q, not %.40q", c.name, got, c.want)
		}
	}
}

func TestS1UpToEnd(t *testing.T) {
	hold(t, []both{
		{"goods|1 2|end|turns", "ok|0 0|"},
		{"goods|1 2", "ok|"},
		{"goods|1 2|turns", "error 3|"},
		{"goods|1 2|end|end|turns", "ok|bad|0 0|"},
		{"goods|1 2| end|end|turns", "error 3|error 11|"},
		{"goods|1 2|end |end|turns", "error 3|error 11|"},
		{"goods|1 2|END|end|turns", "error 3|error 11|"},
		{"goods|1 2|end 1|end|turns", "error 3|error 11|"},
		{"goods|goods|1 2|end|turns", "error 3|error 11|"},
		{"goods|1 2|goods|end|1 2|end", "error 3|bad|bad|"},
		{"game|ballots|end|foo", "error 3|bad|"},
		{"sides|left a : x|right x : a|end|left", "ok|a x|"},
		{"sides|left a : x|right x : a", "ok|"},
		{"sides|left a : x|left|right x : a", "error 4|"},
		{"sides|end|sides|left a :|end|left", "ok|ok|a -|"},
		{"ballots|1 0|end|runoff", "ok|0|"},
		{"ballots|1 0", "ok|"},
		{"game|1 2|end|pure", "ok|pure 0-0|"},
		{"game|1 2", "ok|"},
		{"end", "bad|"},
		{"end|goods|end", "bad|error 7|"},
		{"goods", "error 7|"},
		{"goods |1|end", "bad|bad|bad|"},
		{" goods|1|end", "bad|bad|bad|"},
		{"Goods|1|end", "bad|bad|bad|"},
		{"goods 1|1|end", "bad|bad|bad|"},
		{"sides 1|end", "bad|bad|"},
		{"ballots 1|end", "bad|bad|"},
		{"game 1|end", "bad|bad|"},
		{"1 2|-1|0", "bad|bad|bad|"},
	})
}

func TestS1WhatWasLaidDownStays(t *testing.T) {
	hold(t, []both{
		{"goods|1 2|end|goods|x|end|turns", "ok|error 3|0 0|"},
		{"goods|1 2|end|goods|end|turns", "ok|error 7|0 0|"},
		{"goods|1 2|end|goods|1 2|-1 2|end|turns", "ok|error 9|0 0|"},
		{"goods|1 2|end|goods|1|end|turns", "ok|ok|0|"},
		{"sides|left a : x|right x : a|end|sides|left b 2 :|end|left", "ok|error 9|a x|"},
		{"sides|left a : x|right x : a|end|sides|up b :|end|left", "ok|error 3|a x|"},
		{"sides|left a : x|right x : a|end|sides|left b :|end|left", "ok|ok|b -|"},
		{"sides|left a : x|right x : a|end|sides|end|left|stable", "ok|ok|stable 1|"},
		{"ballots|3 0 1|end|ballots|3 1 1|end|runoff", "ok|error 6|1 0|"},
		{"ballots|3 0 1|end|ballots|end|runoff", "ok|error 7|1 0|"},
		{"ballots|3 0 1|end|ballots|3 1 0|end|runoff", "ok|ok|0 1|"},
		{"game|5 5|end|game|1 2 3|end|zero", "ok|error 7|5|"},
		{"game|5 5|end|game|1000 2|end|zero", "ok|error 9|5|"},
		{"game|5 5|end|game|6 5|end|zero", "ok|ok|6|"},
		{"votes 3 1|votes -1|hamilton 4", "ok|error 9|3 1|"},
		{"votes 3 1|votes x|hamilton 4", "ok|bad|3 1|"},
		{"votes 3 1|votes 1 3|hamilton 4", "ok|ok|1 3|"},
		{"worths 0 1|worths 1 1|shapley", "ok|error 10|1|"},
		{"worths 0 1|worths 0 2|shapley", "ok|ok|2|"},
		{"bids 3|bids 1001|first", "ok|error 9|0 3|"},
		{"bids 3|bids 1|first", "ok|ok|0 1|"},
		{"votes 3 1|bids 5|worths 0 2|goods|7|end|hamilton 1|first|shapley|turns", "ok|ok|ok|ok|1 0|0 5|2|0|"},
	})
}

func TestS1SessionsKnowNothingOfOthers(t *testing.T) {
	agora.Session("bids 5\nvotes 1\nworths 0 1\nsides\nend\nballots\n1 0\nend\ngame\n1 2\nend\ngoods\n1\nend\n")
	hold(t, []both{{"first|quota 1|core|left|borda|pure|turns", strings.Repeat("error 11|", 7)}})
}
