package scrub_test

import (
	"math"
	"slices"
	"strings"
	"testing"

	"tarn/api"
	"tarn/scrub"
)

func of(ver uint64, s string) api.Item {
	return api.Item{Ver: ver, Data: strings.Repeat(s, 32)}
}

func held(block int, ver uint64, s string) api.Held { return api.Held{Block: block, Item: of(ver, s)} }

func TestUnlike(t *testing.T) {
	one := []api.Held{held(5, 2, "a"), held(1, 1, "b"), held(3, 3, "c"), held(7, 1, ""), held(5, 1, "z"), held(99, 1, "a")}
	other := []api.Held{held(1, 1, "b"), held(3, 3, "d"), held(5, 3, "a"), held(6, 1, "e"), {Block: 4, Item: api.Item{Data: "x"}}}
	want := []api.Diff{
		{Block: 3, One: of(3, "c"), Other: of(3, "d")}, {Block: 5, One: of(2, "a"), Other: of(3, "a")}, {Block: 6, Other: of(1, "e")}, {Block: 7, One: of(1, "")},
	}
	if got := scrub.Unlike(one, other); !slices.Equal(got, want) {
		t.Error(got)
	}
	if scrub.Unlike(one, one) != nil || scrub.Unlike(nil, nil) != nil {
		t.Error("of the same")
	}
	if got := scrub.Unlike([]api.Held{{Block: 2}}, nil); len(got) != 1 {
		t.Error("one has none", got)
	}
	if got := scrub.Odd(one, other); !slices.Equal(got, []int{3}) {
		t.Error("odd", got)
	}
	if scrub.Odd(one, one) != nil {
		t.Error("odd, of the same")
	}
}

func TestLacksMend(t *testing.T) {
	one := []api.Held{held(5, 2, "a"), held(1, 1, "b"), held(3, 3, "c")}
	other := []api.Held{held(3, 4, "d"), held(5, 1, "a"), held(6, 1, "e")}
	if got := scrub.Lacks(one, other); !slices.Equal(got, []api.Held{held(1, 1, "b"), held(5, 2, "a")}) {
		t.Error(got)
	}
	if scrub.Lacks(one, one) != nil || scrub.Lacks(nil, one) != nil {
		t.Error("lacks nothing")
	}
	all, lacks := scrub.Mend([][]api.Held{one, nil, other})
	want := []api.Held{held(1, 1, "b"), held(3, 4, "d"), held(5, 2, "a"), held(6, 1, "e")}
	if !slices.Equal(all, want) || len(lacks) != 3 || !slices.Equal(lacks[0], []api.Held{held(3, 4, "d"), held(6, 1, "e")}) || !slices.Equal(lacks[1], want) || len(lacks[2]) != 2 {
		t.Error(all, lacks)
	}
	lacks[1][0].Block = 9
	if all[0].Block != 1 {
		t.Error("shared")
	}
	if all, lacks := scrub.Mend(nil); all != nil || len(lacks) != 0 {
		t.Error("of nobody")
	}
}

func TestUsed(t *testing.T) {
	l := []api.Held{held(0, 1, "a"), held(1, 1, ""), held(2, 1, "b"), held(2, 2, "c"), held(7, 1, "d")}
	for blocks, want := range map[int]int{0: 0, 1: 32, 2: 32, 3: 64, 8: 96, math.MaxInt: 96, -1: 0} {
		if got := scrub.Used(l, blocks); got != want {
			t.Error(blocks, got)
		}
	}
}
