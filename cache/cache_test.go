package cache_test

import (
	"strings"
	"testing"

	"tarn/api"
	"tarn/cache"
)

func of(ver uint64) api.Item { return api.Item{Ver: ver, Data: strings.Repeat("a", 32)} }

func TestCache(t *testing.T) {
	c := cache.New(2)
	c.Put(1, of(1))
	c.Put(2, of(2))
	if x, ok := c.Get(1); x != of(1) || !ok {
		t.Error(x)
	}
	c.Put(3, of(3))
	if x, ok := c.Get(2); x != (api.Item{}) || ok || c.Len() != 2 {
		t.Error("1 was used, 2 goes", x)
	}
	c.Put(1, of(9))
	if x, ok := c.Get(1); x != of(9) || !ok {
		t.Error("in the place of the elder one")
	}
	c.Put(1, of(4))
	if x, _ := c.Get(1); x != of(4) {
		t.Error("whatever its version", x)
	}
	c.Put(4, api.Item{Data: "x"})
	if _, ok := c.Get(4); ok || c.Arc().Has(4) || !c.Arc().Has(3) {
		t.Error("what may not be")
	}
	c.Drop(1)
	c.Drop(7)
	if _, ok := c.Get(1); ok || c.Len() != 1 || c.Arc().Len() != 1 {
		t.Error("dropped")
	}
}

func TestGetOfNothingIsNoUse(t *testing.T) {
	c := cache.New(1)
	c.Put(1, of(1))
	if _, ok := c.Get(2); ok || !c.Arc().Has(1) || c.Len() != 1 {
		t.Error("asked for in vain")
	}
}

func TestRoom(t *testing.T) {
	c := cache.New(0)
	c.Put(1, of(1))
	if _, ok := c.Get(1); ok || c.Len() != 0 {
		t.Error("no room")
	}
	c = cache.New(999)
	for b := range 300 {
		c.Put(b, of(uint64(b)))
	}
	if c.Len() != api.MostArc {
		t.Error(c.Len())
	}
}

func TestNone(t *testing.T) {
	var c *cache.Cache
	c.Put(1, of(1))
	c.Drop(1)
	if x, ok := c.Get(1); x != (api.Item{}) || ok || c.Len() != 0 || c.Arc() != nil {
		t.Error("of none")
	}
	zero := &cache.Cache{}
	zero.Put(1, of(1))
	if _, ok := zero.Get(1); ok {
		t.Error("one that was not made")
	}
}
