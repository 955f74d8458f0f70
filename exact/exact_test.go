package exact

import (
	"fmt"
	"math"
	"regexp"
	"slices"
	"strconv"
	"strings"
	"testing"

	"agora/api"
)

// frac is a small fraction, down above 0: what the tests hold the program against.
type frac struct{ up, down int }

var form = regexp.MustCompile(`\A-?([0-9]+)(?:/([0-9]+))?\z`)

// readSmall is E1 once more, by other means.
func readSmall(q api.Q) frac {
	m := form.FindStringSubmatch(string(q))
	if m == nil {
		return frac{0, 1}
	}
	f := frac{down: 1}
	f.up, _ = strconv.Atoi(m[1])
	if m[2] != "" {
		f.down, _ = strconv.Atoi(m[2])
	}
	if f.down == 0 {
		return frac{0, 1}
	}
	if q[0] == '-' {
		f.up = -f.up
	}
	return f
}

func (f frac) text() api.Q {
	if f.down < 0 {
		f.up, f.down = -f.up, -f.down
	}
	for d := f.down; d > 1; d-- {
		for f.up%d == 0 && f.down%d == 0 {
			f.up, f.down = f.up/d, f.down/d
		}
	}
	if f.down == 1 {
		return api.Q(fmt.Sprint(f.up))
	}
	return api.Q(fmt.Sprintf("%d/%d", f.up, f.down))
}

// texts are all of at most so many letters.
func texts(letters string, most int) []api.Q {
	all, last := []api.Q{""}, []api.Q{""}
	for range most {
		var next []api.Q
		for _, t := range last {
			for _, c := range letters {
				next = append(next, t+api.Q(c))
			}
		}
		all, last = append(all, next...), next
	}
	return all
}

// some are fractions of all kinds, and texts that are none.
func some() []api.Q {
	l := []api.Q{"", "-", "x", "1/0", "-3/0", "0/0", "1.5", "--1", "+2", "2/-3", "007", "-0", "0/7", "-010/4"}
	for up := -4; up <= 4; up++ {
		for down := 1; down <= 6; down++ {
			l = append(l, api.Q(fmt.Sprintf("%d/%d", up, down)))
		}
	}
	return l
}

func TestE1Norm(t *testing.T) {
	nines := strings.Repeat("9", 300)
	for _, c := range []struct{ q, want api.Q }{
		{"6/4", "3/2"}, {"-6/4", "-3/2"}, {"007", "7"}, {"010/3", "10/3"}, {"10/0005", "2"}, {"4/2", "2"}, {"5/1", "5"}, {"-5/01", "-5"},
		{"0", "0"}, {"-0", "0"}, {"000", "0"}, {"0/5", "0"}, {"-0/5", "0"},
		{"1/0", "0"}, {"-1/00", "0"}, {"0/0", "0"},
		{"", "0"}, {"-", "0"}, {"/", "0"}, {"-/", "0"}, {"1/", "0"}, {"/2", "0"}, {"-/2", "0"}, {"1/2/3", "0"}, {"1/2/", "0"}, {"1//2", "0"},
		{"1.5", "0"}, {"1e3", "0"}, {"0x10", "0"}, {"0b1", "0"}, {"1_0", "0"}, {"+1", "0"}, {"--1", "0"}, {"1-", "0"}, {"1/-2", "0"}, {"1/+2", "0"}, {"-1/-2", "0"}, {"a", "0"}, {"Inf", "0"}, {"nil", "0"},
		{" 1", "0"}, {"1 ", "0"}, {"1 /2", "0"}, {"1/ 2", "0"}, {"- 1", "0"}, {"1\n", "0"}, {"\t1", "0"}, {"1\x00", "0"}, {"1/2\n", "0"},
		{"\u0661", "0"}, {"\uff11", "0"}, {"1/\u0662", "0"}, {"\u22121", "0"}, {"1\u20442", "0"}, {"\xff", "0"}, {"1\xff", "0"},
		{"12345678901234567890/98765432109876543210", "13717421/109739369"},
		{api.Q(nines), api.Q(nines)}, {api.Q("-" + nines + "/3"), api.Q("-" + strings.Repeat("3", 300))}, {api.Q("000" + nines + "/" + nines), "1"}, {api.Q("1/" + nines), api.Q("1/" + nines)},
	} {
		if got := Norm(c.q); got != c.want {
			t.Errorf("Norm(%q) = %q, want %q", c.q, got, c.want)
		}
	}
}

func TestE1NormOfAllShortTexts(t *testing.T) {
	for _, q := range texts("0126-/.+ x", 5) {
		got, want := Norm(q), readSmall(q).text()
		if got != want {
			t.Fatalf("Norm(%q) = %q, want %q", q, got, want)
		}
		if again := Norm(got); again != got {
			t.Fatalf("Norm(%q) = %q: not in lowest terms", got, again)
		}
	}
}

func TestE1Of(t *testing.T) {
	for _, n := range []int{0, 1, -1, 7, -10, 1000, math.MaxInt, math.MinInt, math.MinInt + 1} {
		if got, want := Of(n), api.Q(fmt.Sprint(n)); got != want {
			t.Errorf("Of(%d) = %q, want %q", n, got, want)
		}
	}
}

func TestE2OfTwo(t *testing.T) {
	for _, p := range some() {
		for _, q := range some() {
			a, b := readSmall(p), readSmall(q)
			check := func(what string, got api.Q, want frac) {
				if got != want.text() {
					t.Errorf("%s(%q, %q) = %q, want %q", what, p, q, got, want.text())
				}
			}
			check("Add", Add(p, q), frac{a.up*b.down + b.up*a.down, a.down * b.down})
			check("Sub", Sub(p, q), frac{a.up*b.down - b.up*a.down, a.down * b.down})
			check("Mul", Mul(p, q), frac{a.up * b.up, a.down * b.down})
			if b.up != 0 {
				got, e := Div(p, q)
				check("Div", got, frac{a.up * b.down, a.down * b.up})
				if e != api.OK {
					t.Errorf("Div(%q, %q): error %d", p, q, e)
				}
			}
			less, more := a.up*b.down < b.up*a.down, a.up*b.down > b.up*a.down
			if got := Cmp(p, q); (got == -1) != less || (got == 1) != more || (got == 0) == (less || more) {
				t.Errorf("Cmp(%q, %q) = %d", p, q, got)
			}
		}
	}
}

func TestE2DivByZero(t *testing.T) {
	for _, a := range []api.Q{"0", "1", "-2/3", "x", ""} {
		for _, b := range []api.Q{"0", "-0", "0/5", "000", "1/0", "", "-", "1.5", "+1", " 1"} {
			if q, e := Div(a, b); q != "" || e != api.ErrZero {
				t.Errorf("Div(%q, %q) = %q, %d, want \"\", %d", a, b, q, e, api.ErrZero)
			}
		}
	}
	if q, e := Div("0", "-3"); q != "0" || e != api.OK {
		t.Errorf("Div(0, -3) = %q, %d", q, e)
	}
}

// Beyond all whole kinds of the language nothing may be cut off.
func TestE2Great(t *testing.T) {
	a, b := "1"+strings.Repeat("0", 400), "1"+strings.Repeat("0", 399)+"1"
	down := api.Q("1/" + a)
	if got := Add(api.Q(a), "1"); got != api.Q(b) {
		t.Errorf("Add: %q", got)
	}
	if got := Sub(api.Q(a), api.Q(b)); got != "-1" {
		t.Errorf("Sub: %q", got)
	}
	if got := Mul(api.Q(b), down); got != api.Q(b+"/"+a) {
		t.Errorf("Mul: %q", got)
	}
	if got, e := Div("1", api.Q("-"+a)); got != "-"+down || e != api.OK {
		t.Errorf("Div: %q, %d", got, e)
	}
	if Cmp(api.Q(a), api.Q(b)) != -1 || Cmp(api.Q(b+"/"+a), "1") != 1 || Cmp(api.Q(a+"/"+a), "1") != 0 {
		t.Error("Cmp")
	}
}

func TestE2Sum(t *testing.T) {
	for _, c := range []struct {
		l    []api.Q
		want api.Q
	}{
		{nil, "0"}, {[]api.Q{}, "0"}, {[]api.Q{"6/4"}, "3/2"}, {[]api.Q{"x"}, "0"}, {[]api.Q{"1/2", "1/3", "1/6"}, "1"},
		{[]api.Q{"1/2", "1.5", "1/0", "-007"}, "-13/2"}, {[]api.Q{"1/3", "-2/6"}, "0"}, {[]api.Q{"1", "2", "3", "4"}, "10"},
	} {
		if got := Sum(c.l); got != c.want {
			t.Errorf("Sum(%q) = %q, want %q", c.l, got, c.want)
		}
	}
}

func TestE2Dot(t *testing.T) {
	for _, c := range []struct {
		a, b []api.Q
		want api.Q
	}{
		{nil, nil, "0"}, {nil, []api.Q{"1"}, "0"}, {[]api.Q{"1"}, []api.Q{}, "0"}, {[]api.Q{"2/3"}, []api.Q{"9/4"}, "3/2"},
		{[]api.Q{"1", "2", "3"}, []api.Q{"4", "5", "6"}, "32"}, {[]api.Q{"1", "2", "3"}, []api.Q{"4", "5"}, "14"}, {[]api.Q{"1/2"}, []api.Q{"4", "5"}, "2"},
		{[]api.Q{"1/2", "x", "-1"}, []api.Q{"-1", "5", "1/0"}, "-1/2"}, {[]api.Q{"1", "1"}, []api.Q{"1/2", "-1/2"}, "0"},
	} {
		if got := Dot(c.a, c.b); got != c.want {
			t.Errorf("Dot(%q, %q) = %q, want %q", c.a, c.b, got, c.want)
		}
	}
}

func TestX2ListsStayAsTheyAre(t *testing.T) {
	a, b := some(), some()
	slices.Reverse(b)
	first, second := slices.Clone(a), slices.Clone(b)
	if Sum(a) != Sum(a) || Dot(a, b) != Dot(a, b) {
		t.Error("asked again, another answer")
	}
	if !slices.Equal(a, first) || !slices.Equal(b, second) {
		t.Error("a list that was handed in was written into")
	}
}
