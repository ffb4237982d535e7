package client_test

import (
	"slices"
	"testing"

	"tarn/api"
	"tarn/client"
)

func TestHistory(t *testing.T) {
	h := client.New()
	if h.All() != nil || h.Open() != nil {
		t.Error("empty")
	}
	r := api.Ask{Len: 32}
	w := api.Ask{What: api.AskWrite, Data: "x", Sure: true}
	if h.Ask(5, r) != 1 || h.Ask(6, w) != 2 || h.Ask(5, r) != 3 {
		t.Error("numbers from 1 on")
	}
	if !slices.Equal(h.Open(), []int{1, 2, 3}) {
		t.Error(h.Open())
	}
	if !h.Tell(6, api.Reply{ID: 2, Err: api.ErrBusy}) || h.Tell(6, api.Reply{ID: 2}) || h.Tell(6, api.Reply{ID: 4}) || h.Tell(6, api.Reply{}) || !h.Tell(5, api.Reply{ID: 1, Data: "d"}) {
		t.Error("told once")
	}
	want := []api.Event{
		{ID: 1, Gate: 5, Ask: r}, {ID: 2, Gate: 6, Ask: w}, {ID: 3, Gate: 5, Ask: r},
		{Answer: true, ID: 2, Gate: 6, Err: api.ErrBusy}, {Answer: true, ID: 1, Gate: 5, Data: "d"},
	}
	l := h.All()
	if !slices.Equal(l, want) || !slices.Equal(h.Open(), []int{3}) {
		t.Error(l)
	}
	l[0].ID = 9
	if h.All()[0].ID != 1 {
		t.Error("the list is the caller's own")
	}
	if e, ok := h.Find(1); e != want[4] || !ok {
		t.Error(e)
	}
	for _, id := range []int{0, 3, 4, -1} {
		if e, ok := h.Find(id); ok || e != (api.Event{}) {
			t.Error(id, e)
		}
	}
}

func TestMostEvents(t *testing.T) {
	h := client.New()
	for range api.MostEvents - 1 {
		h.Ask(5, api.Ask{})
	}
	h.Tell(5, api.Reply{ID: 7})
	if h.Ask(5, api.Ask{}) != 0 || len(h.All()) != api.MostEvents || !h.Tell(5, api.Reply{ID: 8}) || len(h.Open()) != api.MostEvents-3 {
		t.Error("what was asked is told all the same")
	}
}

func TestOpenRises(t *testing.T) {
	h := client.New()
	for range 500 {
		h.Ask(5, api.Ask{})
	}
	for range 5 {
		if l := h.Open(); !slices.IsSorted(l) || len(l) != 500 {
			t.Fatal("in order")
		}
	}
}

func TestNone(t *testing.T) {
	var h *client.History
	e, ok := h.Find(1)
	if h.Ask(5, api.Ask{}) != 0 || h.Tell(5, api.Reply{ID: 1}) || h.All() != nil || h.Open() != nil || ok || e != (api.Event{}) {
		t.Error("of none")
	}
	zero := &client.History{}
	zero.Ask(5, api.Ask{})
	zero.Tell(5, api.Reply{})
}
