package items_test

import (
	"math"
	"slices"
	"strings"
	"testing"

	"tarn/api"
	"tarn/item"
	"tarn/items"
	"tarn/num"
)

func of(ver uint64, letter string) api.Item {
	return api.Item{Ver: ver, Data: strings.Repeat(letter, 32/max(len(letter), 1))}
}

func held(block int, ver uint64, letter string) api.Held {
	return api.Held{Block: block, Item: of(ver, letter)}
}

func TestSet(t *testing.T) {
	s := items.New()
	if !s.Put(5, of(3, "a")) || s.Put(5, of(2, "b")) || s.Put(5, of(3, "b")) || !s.Put(5, of(4, "c")) || !s.Put(0, api.Item{}) || !s.Put(63, of(1, "")) {
		t.Error("laid, where it is newer")
	}
	for _, b := range []int{-1, 64, math.MaxInt, math.MinInt} {
		if s.Put(b, of(9, "a")) || s.Drop(b, 9) {
			t.Error("no such block", b)
		}
	}
	if s.Put(7, api.Item{Ver: 1, Data: "short"}) {
		t.Error("an item that may not be")
	}
	if x, ok := s.Get(5); x != of(4, "c") || !ok {
		t.Error(x)
	}
	if x, ok := s.Get(6); x != (api.Item{}) || ok {
		t.Error(x)
	}
	want := []api.Held{held(0, 0, ""), held(5, 4, "c"), held(63, 1, "")}
	l := s.All()
	if !slices.Equal(l, want) || s.Len() != 3 {
		t.Error(l)
	}
	l[0].Block = 9
	if !slices.Equal(s.All(), want) {
		t.Error("the list is the caller's own")
	}
	if s.Drop(5, 3) || !s.Drop(5, 4) || s.Drop(5, 4) || s.Len() != 2 || !s.Drop(0, 0) {
		t.Error("dropped, if not newer")
	}
}

func TestOfMerge(t *testing.T) {
	a := []api.Held{held(9, 1, "a"), held(2, 5, "b"), held(9, 2, "c"), held(9, 2, "d"), held(-1, 1, "e"), {Block: 3, Item: api.Item{Data: "x"}}}
	if l := items.Of(a).All(); !slices.Equal(l, []api.Held{held(2, 5, "b"), held(9, 2, "c")}) {
		t.Error(l)
	}
	b := []api.Held{held(2, 5, "z"), held(9, 3, "y"), held(1, 1, "x")}
	if l := items.Merge(a, b); !slices.Equal(l, []api.Held{held(1, 1, "x"), held(2, 5, "b"), held(9, 3, "y")}) {
		t.Error(l)
	}
	if items.Merge(nil, nil) != nil || items.Of(nil).Len() != 0 {
		t.Error("of nothing")
	}
}

func TestPutTake(t *testing.T) {
	for _, l := range [][]api.Held{nil, {held(0, 0, "")}, {held(3, 7, "a"), held(4, 300, ""), held(63, 1, "b")}} {
		s := num.From(items.Put(l))
		if got := items.Take(s); !slices.Equal(got, l) || s.End() != api.OK {
			t.Error(got)
		}
	}
	if got := items.Put([]api.Held{held(3, 7, "")}); got != "\x01\x01\x01\x03"+item.Put(of(7, "")) {
		t.Errorf("%x", got)
	}
	all := []api.Held{}
	for b := range 65 {
		all = append(all, held(b, 1, ""))
	}
	for _, c := range []struct {
		s    string
		want api.Errno
	}{
		{"", api.ErrShort}, {"\x01\x01", api.ErrShort}, {items.Put([]api.Held{held(3, 7, "a"), held(3, 8, "a")}), api.ErrForm},
		{items.Put([]api.Held{held(3, 7, "a"), held(2, 8, "a")}), api.ErrForm}, {items.Put([]api.Held{held(64, 7, "a")}), api.ErrForm},
		{items.Put(all), api.ErrForm}, {items.Put(all[:64])[:40], api.ErrShort}, {num.Put(math.MaxUint64), api.ErrForm},
	} {
		s := num.From(c.s)
		if got := items.Take(s); got != nil || s.Err() != c.want {
			t.Errorf("%x: %d, not %d", c.s, s.Err(), c.want)
		}
	}
	if items.Take(nil) != nil || items.Put([]api.Held{{Block: -1}}) == "" {
		t.Error("at all arguments")
	}
}

func TestNone(t *testing.T) {
	var s *items.Set
	x, ok := s.Get(0)
	if x != (api.Item{}) || ok || s.Put(0, api.Item{}) || s.Drop(0, 9) || s.All() != nil || s.Len() != 0 {
		t.Error("of none")
	}
}
