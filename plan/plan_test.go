package plan_test

import (
	"math"
	"testing"

	"tarn/api"
	"tarn/plan"
)

func TestRounds(t *testing.T) {
	for _, c := range [][3]int{
		{0, 0, 140}, {1, 0, 164}, {0, 1, 164}, {2, 3, 260}, {-5, -5, 140}, {0, 64, 140 + 24*64}, {0, 65, 140 + 24*64}, {0, math.MaxInt, 140 + 24*64},
		{160, 0, 3980}, {161, 0, 4000}, {math.MaxInt, math.MaxInt, 4000}, {math.MinInt, 0, 140},
	} {
		if got := plan.Rounds(c[0], c[1]); got != c[2] {
			t.Error(c, got)
		}
	}
}

func TestParts(t *testing.T) {
	v := api.Volume{Blocks: 8, Dirty: 5}
	three := api.Ask{What: api.AskTrim, Len: 96}
	flush := api.Ask{What: api.AskFlush}
	many := make([]api.Ask, 1000)
	for i := range many {
		many[i] = three
	}
	for i, c := range []struct {
		l    []api.Ask
		v    api.Volume
		want int
	}{
		{nil, v, 0}, {[]api.Ask{three}, v, 6}, {[]api.Ask{{Len: 32}, flush, three}, v, 13}, {[]api.Ask{{Len: 31}, {What: 9}, {At: 256, Len: 32}}, v, 0},
		{[]api.Ask{flush}, api.Volume{Blocks: 8, Dirty: math.MaxInt}, 64}, {[]api.Ask{flush}, api.Volume{Blocks: 8, Dirty: -1}, 0}, {[]api.Ask{three}, api.Volume{}, 0},
		{many, v, 4000}, {many[:666], v, 3996}, {many[:667], v, 4000},
	} {
		if got := plan.Parts(c.l, c.v); got != c.want {
			t.Error(i, got)
		}
	}
}
