package cache_test

import (
	"math"
	"reflect"
	"strings"
	"testing"

	"tarn/api"
	"tarn/cache"
)

func of(ver uint64) api.Item { return api.Item{Ver: ver, Data: strings.Repeat("a", 32)} }

func TestCache(t *testing.T) {
	c := cache.New(2)
	c.Put(1, of(1))
	c.Put(2, of(2))
	if x, ok := c.Get(1); x != of(1) || !ok {
		t.Error(x)
	}
	c.Put(3, of(3))
	if x, ok := c.Get(2); x != (api.Item{}) || ok || c.Len() != 2 {
		t.Error("1 was used, 2 goes", x)
	}
	c.Put(1, of(9))
	if x, ok := c.Get(1); x != of(9) || !ok {
		t.Error("in the place of the elder one")
	}
	c.Put(1, of(4))
	if x, _ := c.Get(1); x != of(4) {
		t.Error("whatever its version", x)
	}
	c.Put(4, api.Item{Data: "x"})
	if _, ok := c.Get(4); ok || c.Arc().Has(4) || !c.Arc().Has(3) {
		t.Error("what may not be")
	}
	c.Drop(1)
	c.Drop(7)
	if _, ok := c.Get(1); ok || c.Len() != 1 || c.Arc().Len() != 1 {
		t.Error("dropped")
	}
}

// noBlocks is numbers that no block has.
func noBlocks() []int {
	return []int{api.MostBlocks, api.MostBlocks + 1, -1, math.MaxInt, math.MinInt}
}

func TestNoSuchBlock(t *testing.T) {
	for _, block := range noBlocks() {
		c := cache.New(1)
		c.Put(block, of(5))
		if x, ok := c.Get(block); x != (api.Item{}) || ok || c.Len() != 0 || c.Arc().Has(block) {
			t.Error("kept", block)
		}
		c.Put(block, api.Item{Ver: 5})
		if _, ok := c.Get(block); ok || c.Len() != 0 {
			t.Error("noughts are kept", block)
		}
	}
}

func TestNothingGoesForNoSuchBlock(t *testing.T) {
	last := api.MostBlocks - 1
	for _, block := range noBlocks() {
		c := cache.New(2)
		c.Put(7, of(7))
		c.Put(7, of(7))
		c.Put(last, of(1))
		c.Put(3, of(3))
		c.Put(0, of(2))
		lists, want := c.Arc().Lists(), c.Arc().Want()
		c.Put(block, of(9))
		c.Put(block, of(10))
		c.Get(block)
		c.Drop(block)
		if !reflect.DeepEqual(c.Arc().Lists(), lists) || c.Arc().Want() != want || c.Len() != 2 {
			t.Error("something else is kept, or remembered", block, c.Arc().Lists())
		}
		if x, ok := c.Get(0); x != of(2) || !ok {
			t.Error("gone for", block, x)
		}
	}
}

func TestFirstAndLastBlock(t *testing.T) {
	c := cache.New(2)
	for _, block := range []int{0, api.MostBlocks - 1} {
		c.Put(block, of(4))
		if x, ok := c.Get(block); x != of(4) || !ok {
			t.Error(block, x)
		}
	}
}

func TestGetOfNothingIsNoUse(t *testing.T) {
	c := cache.New(1)
	c.Put(1, of(1))
	if _, ok := c.Get(2); ok || !c.Arc().Has(1) || c.Len() != 1 {
		t.Error("asked for in vain")
	}
}

func TestRoom(t *testing.T) {
	c := cache.New(0)
	c.Put(1, of(1))
	if _, ok := c.Get(1); ok || c.Len() != 0 {
		t.Error("no room")
	}
	c = cache.New(999)
	for b := range api.MostBlocks {
		c.Put(b, of(uint64(b)))
	}
	if c.Len() != min(api.MostBlocks, api.MostArc) {
		t.Error(c.Len())
	}
}

func TestNone(t *testing.T) {
	var c *cache.Cache
	c.Put(1, of(1))
	c.Drop(1)
	if x, ok := c.Get(1); x != (api.Item{}) || ok || c.Len() != 0 || c.Arc() != nil {
		t.Error("of none")
	}
	zero := &cache.Cache{}
	zero.Put(1, of(1))
	if _, ok := zero.Get(1); ok {
		t.Error("one that was not made")
	}
}
