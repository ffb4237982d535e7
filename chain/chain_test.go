package chain_test

import (
	"slices"
	"strings"
	"testing"

	"tarn/api"
	"tarn/chain"
)

func of(ver uint64) api.Item { return api.Item{Ver: ver, Data: strings.Repeat("a", 32)} }

func TestChain(t *testing.T) {
	c := chain.New([]api.Held{{Block: 4, Item: of(3)}, {Block: 1, Item: of(1)}, {Block: 4, Item: of(2)}, {Block: 64, Item: of(1)}})
	want := []api.Held{{Block: 1, Item: of(1)}, {Block: 4, Item: of(3)}}
	if !slices.Equal(c.All(), want) {
		t.Error(c.All())
	}
	if c.Store(4, of(2)) || c.Store(4, of(3)) || !c.Store(4, of(5)) || !c.Store(0, api.Item{Ver: 1}) || c.Store(64, of(9)) || c.Store(2, api.Item{Ver: 2, Data: "x"}) {
		t.Error("as a set's Put")
	}
	if c.Load(4) != of(5) || c.Load(0) != (api.Item{Ver: 1}) || c.Load(2) != (api.Item{}) || c.Load(-1) != (api.Item{}) || c.Load(64) != (api.Item{}) {
		t.Error("load")
	}
}

func TestLike(t *testing.T) {
	a, b := chain.New(nil), chain.New(nil)
	if !chain.Like(a, b) || !chain.Like(nil, a) || !chain.Like(a, nil) || !chain.Like(nil, nil) || !chain.Like(&chain.Chain{}, nil) {
		t.Error("without items")
	}
	a.Store(1, of(1))
	if chain.Like(a, b) || chain.Like(a, nil) {
		t.Error("unlike")
	}
	b.Store(1, of(1))
	if !chain.Like(a, b) {
		t.Error("alike")
	}
	b.Store(1, of(2))
	if chain.Like(a, b) {
		t.Error("of two versions")
	}
}

func TestNone(t *testing.T) {
	var c *chain.Chain
	if c.Store(0, of(1)) || c.Load(0) != (api.Item{}) || c.All() != nil {
		t.Error("of none")
	}
}
