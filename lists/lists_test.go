package lists_test

import (
	"slices"
	"testing"

	"agora/api"
	"agora/lists"
)

func TestOf(t *testing.T) {
	if l := lists.Of([]int{0, -7, 12}); !slices.Equal(l, []api.Q{"0", "-7", "12"}) {
		t.Error(l)
	}
	if l := lists.Of(nil); len(l) != 0 {
		t.Error(l)
	}
}

func TestBelow(t *testing.T) {
	for _, l := range [][]api.Q{nil, {"0"}, {"-0", "1/2"}, {"-x", "3"}, {"-1/0"}} {
		if lists.Below(l) {
			t.Errorf("Below(%q)", l)
		}
	}
	for _, l := range [][]api.Q{{"-1"}, {"0", "-1/9"}, {"-1", "5"}} {
		if !lists.Below(l) {
			t.Errorf("not Below(%q)", l)
		}
	}
}

func TestShare(t *testing.T) {
	l := []api.Q{"1/2", "0", "x", "2"}
	if s, e := lists.Share(l); e != api.OK || !slices.Equal(s, []api.Q{"1/5", "0", "0", "4/5"}) {
		t.Error(s, e)
	}
	if !slices.Equal(l, []api.Q{"1/2", "0", "x", "2"}) {
		t.Error("changed:", l)
	}
	if s, e := lists.Share([]api.Q{"1", "-1"}); e != api.ErrZero || len(s) != 0 {
		t.Error(s, e)
	}
	if s, e := lists.Share(nil); e != api.OK || len(s) != 0 {
		t.Error(s, e)
	}
}
