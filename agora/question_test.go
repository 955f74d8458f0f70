package agora_test

import (
	"fmt"
	"slices"
	"strings"
	"testing"

	"agora/agora"
	"agora/api"
	"agora/auction"
	"agora/match"
	"agora/nash"
	"agora/ranks"
	"agora/seats"
	"agora/share"
	"agora/vote"
	"agora/worth"
	"agora/zero"
)

// laid has something of each kind.
const laid = "sides|left a : x|right x : a|end|ballots|3 0 1|end|game|3 3 0 5|5 0 1 1|end|goods|5 3|1 4|end|votes 3 1|worths 0 1|bids 5 9|"

// asked: each word that asks, with as many numbers as it has.
var asked = []string{
	"left", "right", "stable", "condorcet", "borda", "copeland", "smith", "schulze", "runoff", "kemeny", "quota 7", "hamilton 7", "divide 1 7",
	"shapley", "banzhaf", "core", "pure", "zero", "nash 0", "first", "second", "clock", "turns", "even", "circles", "knife",
}

func TestS3NotLaidDown(t *testing.T) {
	for _, line := range asked {
		if got := agora.Session(line); got != "error 11\n" {
			t.Errorf("%s: %q", line, got)
		}
		if got := agora.Session(broken(laid) + line); strings.Contains(got, "error") || strings.Contains(got, "bad") {
			t.Errorf("%s, all being laid down: %q", line, got)
		}
	}
	hold(t, []both{
		// One thing that is there does not stand for another.
		{"sides|end|condorcet|quota 7|core|pure|first|turns", "ok|" + strings.Repeat("error 11|", 6)},
		{"votes 3 1|left|borda|shapley|zero|second|even", "ok|" + strings.Repeat("error 11|", 6)},
		{"worths 0 1|left|borda|hamilton 7|nash 0|clock|circles", "ok|" + strings.Repeat("error 11|", 6)},
		{"bids 1 2|left|borda|divide 1 7|banzhaf|zero|knife", "ok|" + strings.Repeat("error 11|", 6)},
		{"goods|1|end|right|smith|quota 7|core|zero|clock", "ok|" + strings.Repeat("error 11|", 6)},
		{"game|1 2|end|stable|kemeny|quota 7|core|clock|turns", "ok|" + strings.Repeat("error 11|", 6)},
		{"ballots|1 0|end|stable|quota 7|core|pure|clock|turns", "ok|" + strings.Repeat("error 11|", 6)},
		// Something that was refused is not there.
		{"votes|quota 7", "error 7|error 11|"},
		{"votes -1|quota 7", "error 9|error 11|"},
		{"worths 1|core", "error 7|error 11|"},
		{"bids -1|clock", "error 9|error 11|"},
		{"sides|left a 2 :|end|left", "error 9|error 11|"},
		{"ballots|1 1|end|borda", "error 8|error 11|"},
		{"game|1|end|pure", "error 7|error 11|"},
		{"goods|-1|end|turns", "error 9|error 11|"},
		// It is said ahead of what else may be wrong, but not ahead of bad.
		{"quota 201|divide 9 201|nash 99", strings.Repeat("error 11|", 3)},
		{"quota|quota 1 2|quota x|left 1|nash", strings.Repeat("bad|", 5)},
	})
}

func TestS3Bad(t *testing.T) {
	bad := func(lines ...string) {
		t.Helper()
		for _, line := range lines {
			hold(t, []both{{line, "bad|"}, {laid + line, strings.Repeat("ok|", 7) + "bad|"}})
		}
	}
	for _, line := range asked {
		words := strings.Split(line, " ")
		bad(line+" 1", line+" 1 1 1", line+" ", " "+line, line+"\t", "\t"+line, line+"x", line+" x", line+" -", line+" 1x")
		bad(strings.ToUpper(line), line+"\r", line+"\x00", strings.Replace(line+" ", " ", "  ", 1), line[:len(line)-1]+"é", "x "+line)
		for k := 1; k < len(words); k++ {
			bad(strings.Join(words[:k], " "))
			for _, s := range []string{"07", "-0", "+7", "7.0", "12345678", "7/1", "", "-", "x"} {
				wrong := slices.Clone(words)
				wrong[k] = s
				bad(strings.Join(wrong, " "))
			}
		}
	}
	bad(" ", "  ", "0", "-1", "7 left", "foo", "foo 1", "lefts", "lef", "ok", "error 11", "bad", "end", "end 1", "#", "# left", "divide 1", "divide 1 2 3")
	bad("votes x", "votes 1 x", "votes  1", "votes 1 ", "votes ", "votes 01", "votes 1\t2", "vote 1", "worths 0 1 ", "worths -0 1", "bids 1,2", "bids 12345678", "bid 1")
	bad("saddle", "firsts", "paths", "alabama 7", "join", "left ann : xi", "sides sides", "Votes 1")
}

func TestS3LayDown(t *testing.T) {
	hold(t, []both{
		{"votes", "error 7|"},
		{"votes 0", "error 10|"},
		{"votes 0 0 0", "error 10|"},
		{"votes 1", "ok|"},
		{"votes 1000000", "ok|"},
		{"votes 1000001", "error 9|"},
		{"votes 1 -1", "error 9|"},
		{"votes 1 1 1 1 1 1 1 1", "ok|"},
		{"votes 1 1 1 1 1 1 1 1 1", "error 7|"},
		{"votes -1 1 1 1 1 1 1 1 1", "error 7|"},
		{"votes 0 0 5|hamilton 2|quota 2", "ok|0 0 2|0 0 2|"},
		{"worths", "error 7|"},
		{"worths 0", "error 7|"},
		{"worths 0 0", "ok|"},
		{"worths 0 1 2", "error 7|"},
		{"worths 1 2", "error 10|"},
		{"worths 1 1001", "error 9|"},
		{"worths 0 -1000", "ok|"},
		{"worths 0 -1001", "error 9|"},
		{"worths 0" + strings.Repeat(" 1", 31), "ok|"},
		{"worths 0" + strings.Repeat(" 1", 63), "error 7|"},
		{"bids", "error 7|"},
		{"bids 0", "ok|"},
		{"bids 1000 1000 1000 1000", "ok|"},
		{"bids 1 1 1 1 1", "error 7|"},
		{"bids -1 1 1 1 1", "error 7|"},
		{"bids 1001", "error 9|"},
	})
}

func TestS3Answers(t *testing.T) {
	sides := "sides|left a : x y|left b : x|left c :|right y : a|right x : b a|end|"
	ballots := "ballots|3 0 1 2|2 1 2 0|2 2 0 1|end|"
	hold(t, []both{
		{sides + "left|right|stable", "ok|a y|b x|c -|a y|b x|c -|stable 1|"},
		{"sides|left a : x y|left b : y x|right x : b a|right y : a b|end|left|right|stable", "ok|a x|b y|a y|b x|stable 2|"},
		{"sides|right x :|end|left|right|stable", "ok|stable 1|"},
		{"sides|left a : x|left b : x|right x 2 : b a|end|left|right", "ok|a x|b x|a x|b x|"},
		{ballots + "condorcet|borda|copeland|smith|schulze|runoff|kemeny", "ok|-1|8 7 6|0 0 0|0 1 2|0|2 1 0|0 1 2|"},
		{"ballots|2 1 0|end|condorcet|borda|copeland|smith|schulze|runoff|kemeny", "ok|1|0 2|-1 1|1|1|0 1|1 0|"},
		{"votes 340 280 160 60 15|quota 0|hamilton 0|divide 1 0", "ok|0 0 0 0 0|0 0 0 0 0|0 0 0 0 0|"},
		{"votes 340 280 160 60 15|divide 1 7|divide 2 7|divide 3 7|divide 4 7", "ok|2 2 1 1 1|2 2 1 1 1|3 2 1 1 0|3 3 1 0 0|"},
		{"votes 3 1|quota 200|quota 201|quota -1|hamilton 200|hamilton 201|hamilton -1", "ok|150 50|error 2|error 2|150 50|error 2|error 2|"},
		{"votes 3 1|divide 0 7|divide 5 7|divide -1 7|divide 1 201|divide 5 201|divide 4 200", "ok|error 8|error 8|error 8|error 2|error 2|150 50|"},
		{"worths 0 1 2 4|shapley|banzhaf|core", "ok|3/2 5/2|3/2 5/2|there|"},
		{"worths 0 1 1 1|shapley|core", "ok|1/2 1/2|empty|"},
		{"worths 0 0 0 0 0 0 0 1|shapley|banzhaf", "ok|1/3 1/3 1/3|1/4 1/4 1/4|"},
		{"worths 0 -3|shapley|core", "ok|-3|there|"},
		{"game|3 3 0 5|5 0 1 1|end|pure|zero|nash 0|nash 3", "ok|pure 1-1|1|calm|calm|"},
		{"game|3 3 0 5|5 0 1 1|end|nash -1|nash 4|nash 9999999", "ok|error 8|error 8|error 8|"},
		{"game|1 -1 -1 1|-1 1 1 -1|end|pure|zero|nash 1", "ok|pure|0|calm|"},
		{"game|0 0 0 0|0 0 0 0|end|pure", "ok|pure 0-0 0-1 1-0 1-1|"},
		{"game|3 9 -1 9|-2 9 4 9|end|zero", "ok|1|"},
		{"bids 5 9 7|first|second|clock", "ok|1 9|1 7|1 7|"},
		{"bids 5 9 9|first|second|clock", "ok|1 9|1 9|1 9|"},
		{"bids 5|first|second|clock", "ok|0 5|0 0|0 0|"},
		{"bids 0 0|first|second|clock", "ok|0 0|0 0|0 0|"},
		{"goods|5 3 1|1 4 2|end|turns|even|circles|knife", "ok|0 1 0|0 1 1|0|0..9/10 9/10..3|"},
		{"goods|7 7 7|7 7 7|end|circles", "ok|1|"},
		{"goods|5|5|end|circles", "ok|1|"},
		{"goods|2 0 4|1 1 1|end|knife", "ok|3/2..3 0..3/2|"},
		{"goods|0 0|end|turns|even|circles|knife", "ok|0 0|0 0|0|0..2|"},
	})
}

// answers writes what a layer gives, and what is said if it gives nothing.
func answers[T any](l []T, e api.Errno) string {
	if e != api.OK {
		return said(e)
	}
	return strings.Trim(fmt.Sprintln(l), "[]\n") + "\n"
}

// ask asks lines of something that is laid down, and holds each answer to what is wanted.
func ask(t *testing.T, down string, wants [][2]string) {
	t.Helper()
	text, want := down, "ok\n"
	for _, w := range wants {
		text += w[0] + "\n"
		want += w[1]
	}
	if got := agora.Session(text); got != want {
		t.Errorf("%q: %q, not %q", text, got, want)
	}
}

func TestS3SidesAsTheLayersSay(t *testing.T) {
	d := die(4)
	for range 600 {
		text := d.sides()
		p, e := ranks.Parse(text)
		if e != api.OK || match.May(p) != api.OK {
			continue
		}
		told := func(with []int, _ api.Errno) string {
			s := ""
			for l := range p.Left {
				if with[l] == -1 {
					s += p.Left[l].Name + " -\n"
				} else {
					s += p.Left[l].Name + " " + p.Right[with[l]].Name + "\n"
				}
			}
			return s
		}
		all, _ := match.All(p)
		ask(t, "sides\n"+text+"end\n", [][2]string{
			{"left", told(match.Left(p))}, {"right", told(match.Right(p))}, {"stable", fmt.Sprintf("stable %d\n", len(all))},
		})
	}
}

func TestS3BallotsAsTheLayersSay(t *testing.T) {
	d := die(5)
	for range 600 {
		n := 1 + d.n(6)
		var l []api.Ballot
		text := "ballots\n"
		for range 1 + d.n(5) {
			b := api.Ballot{Count: d.n(9), Order: d.order(n)}
			l = append(l, b)
			text += fmt.Sprintf("%d %s\n", b.Count, join(b.Order))
		}
		one, _ := vote.Condorcet(n, l)
		ask(t, text+"end\n", [][2]string{
			{"condorcet", fmt.Sprintln(one)}, {"borda", answers(vote.Borda(n, l))}, {"copeland", answers(vote.Copeland(n, l))}, {"smith", answers(vote.Smith(n, l))},
			{"schulze", answers(vote.Schulze(n, l))}, {"runoff", answers(vote.Runoff(n, l))}, {"kemeny", answers(vote.Kemeny(n, l))},
		})
	}
}

func TestS3VotesAsTheLayersSay(t *testing.T) {
	d := die(6)
	for range 600 {
		votes := append(d.list(d.n(8), 0, pick(&d, 9, 1000, api.MaxVotes)), 1)
		house, rule := pick(&d, d.n(20), d.n(202), -1, 201), d.n(6)
		h := fmt.Sprint(" ", house)
		ask(t, "votes "+join(votes)+"\n", [][2]string{
			{"quota" + h, answers(seats.Quota(votes, house))}, {"hamilton" + h, answers(seats.Hamilton(votes, house))},
			{fmt.Sprint("divide ", rule) + h, answers(seats.Divide(rule, votes, house))},
		})
	}
}

func TestS3WorthsAsTheLayersSay(t *testing.T) {
	d, there := die(7), 0
	for range 400 {
		v := d.list(1<<(1+d.n(4)), 0, pick(&d, 1, 9, api.MaxWorth))
		v[0] = 0
		if d.n(2) == 0 {
			v[len(v)-1] = api.MaxWorth
		}
		core := "empty\n"
		if share, _, _ := worth.Find(v); len(share) > 0 {
			core = "there\n"
			there++
		}
		ask(t, "worths "+join(v)+"\n", [][2]string{{"shapley", answers(worth.Shapley(v))}, {"banzhaf", answers(worth.Banzhaf(v))}, {"core", core}})
	}
	if there < 50 || there > 350 {
		t.Errorf("%d of 400 have a core: the draw tells too little", there)
	}
}

func TestS3GamesAsTheLayersSay(t *testing.T) {
	d := die(8)
	for range 400 {
		rows, cols, most := 1+d.n(5), 1+d.n(5), pick(&d, 1, 3, api.MaxPay)
		var g api.Game
		text := "game\n"
		for range rows {
			a, b := d.list(cols, -most, most), d.list(cols, -most, most)
			g.A, g.B = append(g.A, a), append(g.B, b)
			var row []int
			for i := range cols {
				row = append(row, a[i], b[i])
			}
			text += join(row) + "\n"
		}
		pure := "pure"
		pairs, _ := nash.Pure(g)
		for _, p := range pairs {
			pure += fmt.Sprintf(" %d-%d", p[0], p[1])
		}
		value, _, _, _ := zero.Solve(g.A)
		ask(t, text+"end\n", [][2]string{
			{"pure", pure + "\n"}, {"zero", string(value) + "\n"}, {"nash 0", "calm\n"}, {fmt.Sprint("nash ", d.n(rows+cols)), "calm\n"},
			{fmt.Sprint("nash ", rows+cols-1), "calm\n"}, {fmt.Sprint("nash ", rows+cols), "error 8\n"}, {"nash -1", "error 8\n"},
		})
	}
}

func TestS3BidsAsTheLayersSay(t *testing.T) {
	d := die(9)
	for range 600 {
		l := d.list(1+d.n(4), 0, pick(&d, 2, 9, api.MaxBid))
		told := func(winner, pays int, e api.Errno) string { return fmt.Sprintf("%d %d\n", winner, pays) }
		ask(t, "bids "+join(l)+"\n", [][2]string{{"first", told(auction.First(l))}, {"second", told(auction.Second(l))}, {"clock", told(auction.Clock(l))}})
	}
}

func TestS3GoodsAsTheLayersSay(t *testing.T) {
	d, most := die(10), [3]int{}
	for range 400 {
		goods := d.n(6)
		var v [][]int
		text := "goods\n"
		for range 1 + d.n(4) {
			l := d.list(goods, 0, pick(&d, 1, 3, api.MaxWorth))
			v = append(v, l)
			text += join(l) + "\n"
		}
		give, _ := share.Circles(v)
		envy, _ := share.Envy(v, give)
		worst := slices.Max(slices.Concat(envy...))
		most[worst]++
		pieces, e := share.Knife(v)
		knife := []string{}
		for _, p := range pieces {
			knife = append(knife, fmt.Sprintf("%s..%s", p[0], p[1]))
		}
		ask(t, text+"end\n", [][2]string{
			{"turns", answers(share.Turns(v))}, {"even", answers(share.Even(v))}, {"circles", fmt.Sprintln(worst)}, {"knife", answers(knife, e)},
		})
	}
	if most[0] < 50 || most[1] < 50 || most[2] > 0 {
		t.Errorf("envy %v: the draw tells too little, or Circles leaves too much of it", most)
	}
}

// junk draws lines of all kinds.
func (d *die) junk() string {
	s := ""
	for range d.n(30) {
		switch d.n(6) {
		case 0:
			s += pick(d, "sides", "ballots", "game", "goods", "end", "end")
		case 1:
			s += pick(d, asked...)
		case 2:
			s += pick(d, "votes ", "worths ", "bids ", "quota ", "nash ", "") + join(d.list(d.n(9), -2, pick(d, 3, 1001)))
		case 3:
			s += strings.TrimSuffix(pick(d, strings.Split(laid, "|")...), "|")
		case 4:
			s += broken(pick(d, laid, "goods||end", "goods|5 3|1 4|end", "ballots||end", "sides|end", "game||end"))
		default:
			for range d.n(8) {
				s += string(rune(pick(d, ' ', '-', '0', '1', 'a', 0, 9, 13, 255, 0x1F600)))
			}
		}
		s += pick(d, "\n", "\n", "\n", "\n", "\n", "", "\n\n")
	}
	return s
}

func TestX1Junk(t *testing.T) {
	d := die(11)
	for range 3000 {
		s := d.junk()
		got := agora.Session(s)
		if got != "" && !strings.HasSuffix(got, "\n") {
			t.Errorf("%q: %q: a line that does not end", s, got)
		}
		if again := agora.Session(s); again != got {
			t.Errorf("%q: %q, then %q", s, got, again)
		}
	}
}
