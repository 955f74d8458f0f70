package orders_test

import (
	"fmt"
	"math"
	"slices"
	"testing"

	"agora/api"
	"agora/orders"
)

func TestT1May(t *testing.T) {
	for _, c := range []struct {
		list []int
		n    int
		want api.Errno
	}{
		{nil, 0, api.OK}, {[]int{0}, 1, api.OK}, {[]int{2, 0, 1}, 3, api.OK},
		{[]int{0}, 0, api.ErrCount}, {nil, 1, api.ErrCount}, {[]int{0, 0, 7}, 2, api.ErrCount}, {nil, -1, api.ErrCount}, {nil, math.MaxInt, api.ErrCount},
		{[]int{0, 2}, 2, api.ErrWho}, {[]int{-1, 0}, 2, api.ErrWho}, {[]int{3, 0, 0}, 3, api.ErrWho}, {[]int{math.MinInt}, 1, api.ErrWho},
		{[]int{0, 0}, 2, api.ErrDouble}, {[]int{1, 1, 3}, 3, api.ErrDouble},
	} {
		if e := orders.May(c.list, c.n); e != c.want {
			t.Errorf("May(%v, %d): %d, not %d", c.list, c.n, e, c.want)
		}
	}
}

func TestT1MaySome(t *testing.T) {
	for _, c := range []struct {
		list []int
		n    int
		want api.Errno
	}{
		{nil, 0, api.OK}, {nil, 5, api.OK}, {[]int{4, 1}, 5, api.OK},
		{[]int{5}, 5, api.ErrWho}, {[]int{-1}, 5, api.ErrWho}, {[]int{0}, 0, api.ErrWho},
		{[]int{1, 2, 1, 9}, 5, api.ErrDouble},
	} {
		if e := orders.MaySome(c.list, c.n); e != c.want {
			t.Errorf("MaySome(%v, %d): %d, not %d", c.list, c.n, e, c.want)
		}
	}
}

func TestV4All(t *testing.T) {
	want := "[[0 1 2] [0 2 1] [1 0 2] [1 2 0] [2 0 1] [2 1 0]]"
	if got := fmt.Sprint(slices.Collect(orders.All(3))); got != want {
		t.Errorf("All(3): %s, not %s", got, want)
	}
	for n, many := range []int{1, 1, 2, 6, 24, 120, 720} {
		all := slices.Collect(orders.All(n))
		if len(all) != many || !slices.IsSortedFunc(all, slices.Compare) {
			t.Errorf("All(%d) tells %d, or not in order", n, len(all))
		}
		for i, o := range all {
			if orders.May(o, n) != api.OK || i > 0 && slices.Equal(o, all[i-1]) {
				t.Errorf("All(%d) tells %v", n, o)
			}
		}
	}
	if all := slices.Collect(orders.All(-1)); len(all) != 0 {
		t.Errorf("All(-1) tells %v", all)
	}
}

// One who breaks off is told no more, and may write into what it was told.
func TestX2All(t *testing.T) {
	var told [][]int
	for o := range orders.All(4) {
		told = append(told, o)
		if len(told) == 3 {
			break
		}
		clear(o)
		_ = append(o, 9)
	}
	if got := fmt.Sprint(told); got != "[[0 0 0 0] [0 0 0 0] [0 2 1 3]]" {
		t.Errorf("told %s", got)
	}
}
