package item_test

import (
	"math"
	"strings"
	"testing"

	"tarn/api"
	"tarn/item"
	"tarn/num"
)

var (
	noughts = strings.Repeat("\x00", 32)
	data    = strings.Repeat("a", 32)
)

func TestMayOfBytes(t *testing.T) {
	for s, may := range map[string]bool{"": true, data: true, noughts: false, data[1:]: false, data + "a": false, noughts[1:] + "a": true} {
		if item.May(api.Item{Ver: 3, Data: s}) != may {
			t.Errorf("%q", s)
		}
		if (item.Put(api.Item{Ver: 3, Data: s}) != "") != may {
			t.Errorf("Put of %q", s)
		}
	}
	if x, e := item.Of(4, noughts); x != (api.Item{Ver: 4}) || e != api.OK || item.Bytes(x) != noughts {
		t.Error("noughts", x, e)
	}
	if x, e := item.Of(4, data); x != (api.Item{Ver: 4, Data: data}) || e != api.OK || item.Bytes(x) != data {
		t.Error("data", x, e)
	}
	for _, s := range []string{"", data[1:], data + "a"} {
		if x, e := item.Of(4, s); x != (api.Item{}) || e != api.ErrInput {
			t.Error(x, e)
		}
	}
}

func TestNewer(t *testing.T) {
	one, two := api.Item{Ver: 1, Data: data}, api.Item{Ver: 2}
	if item.Newer(one, two) || !item.Newer(two, one) || item.Newer(one, one) {
		t.Error("newer")
	}
}

func TestPutTake(t *testing.T) {
	for _, x := range []api.Item{{}, {Ver: 300}, {Ver: math.MaxUint64, Data: data}} {
		s := num.From(item.Put(x))
		if got := item.Take(s); got != x || s.End() != api.OK {
			t.Error(x, got)
		}
	}
	if got := item.Put(api.Item{Ver: 300, Data: data}); got != "\x02\x01\x2c\x01\x20"+data {
		t.Errorf("%x", got)
	}
	for _, c := range []struct {
		s    string
		want api.Errno
	}{
		{"", api.ErrShort}, {"\x00", api.ErrShort}, {"\x09", api.ErrForm}, {"\x00\x01\x20abc", api.ErrShort},
		{"\x00\x01\x03abc", api.ErrForm}, {"\x00" + num.Text(noughts), api.ErrForm}, {"\x00" + num.Text(data+"a"), api.ErrForm},
	} {
		s := num.From(c.s)
		if got := item.Take(s); got != (api.Item{}) || s.Err() != c.want {
			t.Errorf("%x: %v %d", c.s, got, s.Err())
		}
	}
	if item.Take(nil) != (api.Item{}) {
		t.Error("of no source")
	}
}
