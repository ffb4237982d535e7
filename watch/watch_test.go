package watch_test

import (
	"math"
	"slices"
	"testing"

	"tarn/api"
	"tarn/watch"
)

func ticks(w *watch.Watch, n int) {
	for range n {
		w.Tick()
	}
}

func TestWatch(t *testing.T) {
	w := watch.New(3)
	ticks(w, 3)
	if w.Quiet() != nil || w.Up() != [api.Nodes]bool{true, true, true, true, true} {
		t.Error("not longer than the limit")
	}
	w.Heard(1)
	w.Heard(4)
	w.Heard(-1)
	w.Heard(5)
	w.Tick()
	if !slices.Equal(w.Quiet(), []int{0, 2, 3}) || w.Up() != [api.Nodes]bool{false, true, false, false, true} {
		t.Error(w.Quiet())
	}
	w.Heard(2)
	if !slices.Equal(w.Quiet(), []int{0, 3}) {
		t.Error("heard again")
	}
}

func TestLimits(t *testing.T) {
	for _, limit := range []int{1, 0, -5, math.MinInt} {
		w := watch.New(limit)
		ticks(w, 1)
		if w.Quiet() != nil {
			t.Error("one tick", limit)
		}
		ticks(w, 1)
		if len(w.Quiet()) != api.Nodes {
			t.Error("two ticks", limit)
		}
	}
	for _, limit := range []int{api.MostQuiet, api.MostQuiet + 1, math.MaxInt} {
		w := watch.New(limit)
		ticks(w, 2*api.MostQuiet)
		if w.Quiet() != nil {
			t.Error("no more than MostQuiet is counted", limit)
		}
	}
	w := watch.New(api.MostQuiet - 1)
	ticks(w, api.MostQuiet)
	if len(w.Quiet()) != api.Nodes {
		t.Error("one less")
	}
}

func TestNone(t *testing.T) {
	var w *watch.Watch
	w.Tick()
	w.Heard(1)
	if w.Up() != [api.Nodes]bool{} || !slices.Equal(w.Quiet(), []int{0, 1, 2, 3, 4}) {
		t.Error("of none")
	}
}
