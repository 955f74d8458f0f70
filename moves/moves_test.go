package moves_test

import (
	"fmt"
	"slices"
	"testing"

	"agora/api"
	"agora/moves"
)

func is[T any](t *testing.T, what string, got, want T) {
	t.Helper()
	if fmt.Sprint(got) != fmt.Sprint(want) {
		t.Errorf("%s: %v, want %v", what, got, want)
	}
}

func TestPairsAndTurn(t *testing.T) {
	a := [][]int{{1, 2, 3}, {4, 5, 6}}
	is(t, "Pairs", moves.Pairs(a), [][2]int{{0, 0}, {0, 1}, {0, 2}, {1, 0}, {1, 1}, {1, 2}})
	is(t, "Turn", moves.Turn(a), [][]int{{1, 4}, {2, 5}, {3, 6}})
	is(t, "Turn of one", moves.Turn([][]int{{7}}), [][]int{{7}})
	turned := moves.Turn(a)
	turned[0][0], turned[2] = 9, nil
	is(t, "what was turned", a, [][]int{{1, 2, 3}, {4, 5, 6}})
}

func TestAbove(t *testing.T) {
	is(t, "Above", moves.Above([][]int{{-api.MaxPay, 0}, {api.MaxPay, 1}}), [][]api.Q{{"1", "1000"}, {"1999", "1001"}})
}

func TestMix(t *testing.T) {
	for _, c := range []struct {
		l    []api.Q
		many int
		want bool
	}{
		{[]api.Q{"1"}, 1, true}, {[]api.Q{"2/4", "1/2"}, 2, true}, {[]api.Q{"x", "1", "-0"}, 3, true},
		{nil, 0, false}, {nil, 1, false}, {[]api.Q{"1"}, 2, false}, {[]api.Q{"1", "0"}, 1, false}, {[]api.Q{"1/2", "1/3"}, 2, false}, {[]api.Q{"1", "1/9"}, 2, false}, {[]api.Q{"3/2", "-1/2"}, 2, false},
	} {
		is(t, fmt.Sprint("Mix ", c), moves.Mix(c.l, c.many), c.want)
	}
}

func TestAverage(t *testing.T) {
	mix := []api.Q{"1/3", "2/3"}
	is(t, "Average", moves.Average([][]int{{3, 0}, {1, 4}, {-1, -2}}, mix), []api.Q{"1", "3", "-5/3"})
	is(t, "the mix", slices.Equal(mix, []api.Q{"1/3", "2/3"}), true)
}
