package place_test

import (
	"fmt"
	"math"
	"testing"

	"tarn/api"
	"tarn/place"
)

func up(l ...int) [api.Nodes]bool {
	var u [api.Nodes]bool
	for _, n := range l {
		u[n] = true
	}
	return u
}

func all() [api.Nodes]bool { return up(0, 1, 2, 3, 4) }

func TestLoad(t *testing.T) {
	c := api.Conf{Mirrors: []int{3, 1, 9}, Chain: []int{1, 0, -1}}
	if got := place.Load(c); got != [api.Nodes]int{2, 3, 0, 1, 0} {
		t.Error(got)
	}
	if place.Load(api.Conf{}) != [api.Nodes]int{} {
		t.Error("none")
	}
}

func TestPick(t *testing.T) {
	for _, c := range []struct {
		up            [api.Nodes]bool
		load          [api.Nodes]int
		copies, chain int
		want          string
	}{
		{all(), [5]int{}, 2, 3, "[3 4] [0 1 2]"}, {all(), [5]int{}, 3, 3, "[3 4 0] [0 1 2]"}, {all(), [5]int{}, 0, 0, "[] [0]"},
		{all(), [5]int{}, -7, math.MinInt, "[] [0]"}, {all(), [5]int{}, 9, math.MaxInt, "[3 4 0] [0 1 2]"},
		{all(), [5]int{2, 3, 0, 1, 0}, 2, 2, "[3 0] [2 4]"}, {up(1, 3), [5]int{}, 3, 3, "[1 3] [1 3]"}, {up(1, 3), [5]int{0, 9, 0, -2, 0}, 1, 1, "[1] [3]"},
		{up(4), [5]int{}, 3, 2, "[4] [4]"}, {up(), [5]int{}, 2, 2, "[] []"},
	} {
		m, ch := place.Pick(c.up, c.load, c.copies, c.chain)
		if got := fmt.Sprint(m, ch); got != c.want {
			t.Error(c, got)
		}
	}
}

func TestMend(t *testing.T) {
	c := api.Conf{Mirrors: []int{3, 4}, Chain: []int{0, 1}}
	for _, x := range []struct {
		c    api.Conf
		up   [api.Nodes]bool
		want string
	}{
		{c, all(), "[3 4] [0 1]"}, {c, up(0, 1, 2, 4), "[4 2] [0 1]"}, {c, up(1, 2, 3, 4), "[3 4] [1 2]"}, {c, up(3, 4), "[3 4] [3 4]"}, {c, up(2), "[2] [2]"}, {c, up(), "[] []"},
		{c, up(0, 1), "[0 1] [0 1]"}, {api.Conf{}, all(), "[] [0]"}, {api.Conf{Mirrors: []int{9, -1, 3}, Chain: []int{7}}, all(), "[3 0 1] [0]"},
		{api.Conf{Mirrors: []int{0, 1, 2, 3, 4}, Chain: []int{4, 3, 2, 1}}, all(), "[0 1 2] [4 3 2]"}, {api.Conf{Mirrors: []int{1, 1}, Chain: []int{2}}, all(), "[1 0] [2]"},
	} {
		m, ch := place.Mend(x.c, x.up)
		if got := fmt.Sprint(m, ch); got != x.want {
			t.Error(x, got)
		}
	}
}
