package source_test

import (
	"slices"
	"strings"
	"testing"

	"tarn/api"
	"tarn/source"
)

func held(block int, ver uint64) api.Held {
	return api.Held{Block: block, Item: api.Item{Ver: ver, Data: strings.Repeat("a", 32)}}
}

func told(epoch, does int, dirty, all []api.Held) api.Told {
	return api.Told{Epoch: epoch, Does: does, Dirty: dirty, All: all}
}

func TestPick(t *testing.T) {
	one, two, three := []api.Held{held(1, 1)}, []api.Held{held(2, 2)}, []api.Held{held(3, 3)}
	with := api.Conf{Epoch: 4, By: 5, Count: 1, Mirrors: []int{3}, Chain: []int{0}}
	without := api.Conf{Epoch: 4, By: 5, Count: 1, Chain: []int{0}}
	for i, c := range []struct {
		active api.Conf
		l      []api.Told
		want   []api.Held
		ok     bool
	}{
		{api.Conf{}, []api.Told{told(4, 3, one, two)}, nil, true},
		{with, nil, nil, false},
		{with, []api.Told{told(4, api.IsChain, nil, one)}, nil, false},
		{with, []api.Told{told(4, api.IsMirror, one, nil)}, nil, false},
		{with, []api.Told{told(3, 3, one, two)}, nil, false},
		{with, []api.Told{told(5, api.IsMirror, one, two)}, nil, false},
		{without, []api.Told{told(4, api.IsChain, one, two)}, two, true},
		{with, []api.Told{told(4, api.IsMirror, one, three), told(4, api.IsChain, three, two)}, []api.Held{held(1, 1), held(2, 2)}, true},
		{with, []api.Told{told(4, 3, one, two)}, []api.Held{held(1, 1), held(2, 2)}, true},
		{with, []api.Told{told(4, 3, one, two), told(4, 3, three, three)}, []api.Held{held(1, 1), held(2, 2)}, true},
		{with, []api.Told{told(4, 3, one, two), told(5, api.IsChain, one, three)}, three, true},
		{with, []api.Told{told(5, api.IsChain, one, one), told(7, 3, one, two), told(7, 3, one, three), told(6, 3, one, one)}, two, true},
		{with, []api.Told{told(4, api.IsMirror, []api.Held{held(1, 9)}, nil), told(4, api.IsChain, nil, []api.Held{held(1, 8), held(2, 2)})}, []api.Held{held(1, 9), held(2, 2)}, true},
		{with, []api.Told{told(4, api.IsMirror, []api.Held{held(1, 7)}, nil), told(4, api.IsChain, nil, []api.Held{held(1, 8)})}, []api.Held{held(1, 8)}, true},
	} {
		if got, ok := source.Pick(c.active, c.l); !slices.Equal(got, c.want) || ok != c.ok {
			t.Error(i, got, ok)
		}
	}
}

func TestPickIsTheCallersOwn(t *testing.T) {
	all := []api.Held{held(1, 1)}
	got, _ := source.Pick(api.Conf{Epoch: 1, Chain: []int{0}}, []api.Told{told(2, api.IsChain, nil, all)})
	got[0].Block = 9
	if all[0].Block != 1 {
		t.Error("shared")
	}
}
