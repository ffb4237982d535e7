package extent_test

import (
	"math"
	"slices"
	"testing"

	"tarn/api"
	"tarn/extent"
)

func held(block int, ver uint64) api.Held { return api.Held{Block: block, Item: api.Item{Ver: ver}} }

func TestOf(t *testing.T) {
	l := []api.Held{held(4, 9), held(1, 5), held(2, 3), held(1, 4), held(63, 1), held(64, 1), held(5, 9), held(6, 2), {Block: 7, Item: api.Item{Data: "x"}}}
	want := []api.Extent{{First: 1, Len: 2, Low: 3, High: 5}, {First: 4, Len: 3, Low: 2, High: 9}, {First: 63, Len: 1, Low: 1, High: 1}}
	if got := extent.Of(l); !slices.Equal(got, want) {
		t.Error(got)
	}
	if got := extent.Of([]api.Held{held(1, 1), held(2, 2), held(4, 3)}); len(got) != 2 || extent.Of(nil) != nil {
		t.Error(got)
	}
}

func TestEldestRising(t *testing.T) {
	l := []api.Held{held(4, 9), held(5, 2), held(3, 2), held(1, 5), held(0, 9)}
	if extent.Eldest(l) != 1 || extent.Eldest(nil) != -1 || extent.Eldest(l[:1]) != 0 {
		t.Error("the first place of the least version")
	}
	if got := extent.Rising(l); !slices.Equal(got, []api.Held{held(3, 2), held(5, 2), held(1, 5), held(0, 9), held(4, 9)}) || l[0] != held(4, 9) || extent.Rising(nil) != nil {
		t.Error(got)
	}
}

func TestBeforeBlocks(t *testing.T) {
	l := []api.Extent{{First: 1, Len: 2, Low: 3, High: 5}, {First: 4, Len: 3, Low: 2, High: 9}, {First: 9, Len: -4, High: 6}}
	if got := extent.Before(l, 6); !slices.Equal(got, []api.Extent{l[0], l[2]}) {
		t.Error(got)
	}
	if extent.Before(l, 4) != nil || len(extent.Before(l, math.MaxUint64)) != 3 || extent.Before(nil, 1) != nil {
		t.Error("none, all")
	}
	if extent.Blocks(l) != 5 || extent.Blocks(nil) != 0 {
		t.Error("a length below 0 is none")
	}
}
