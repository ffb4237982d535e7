package alike_test

import (
	"slices"
	"strings"
	"testing"

	"tarn/alike"
	"tarn/api"
	"tarn/calm"
	"tarn/sched"
	"tarn/world"
)

const blocks = 8

func fresh() *world.World {
	return world.New(api.Setup{Volume: api.Volume{Blocks: blocks, Dirty: 64, Writes: 1000}, Room: 3})
}

func block(s string) string { return strings.Repeat(s, 32) }

func write(at int, s string) api.Ask {
	return api.Ask{What: api.AskWrite, At: at * 32, Data: block(s)}
}

func read(at int) api.Ask { return api.Ask{At: at * 32, Len: 32} }

func TestOne(t *testing.T) {
	w := fresh()
	if e, ok := alike.One(w, 5, read(0)); ok || e != (api.Event{}) {
		t.Error("nobody serves", e)
	}
	calm.Serve(w, 5, 1, []int{3}, []int{0})
	if e, ok := alike.One(w, 5, write(1, "a")); !ok || e.Err != api.OK || !e.Answer || e.ID != 2 {
		t.Error(e)
	}
	if e, ok := alike.One(w, 5, read(1)); !ok || e.Data != block("a") {
		t.Error("what was written", e)
	}
	if e, ok := alike.One(w, 5, read(9)); !ok || e.Err != api.ErrInput {
		t.Error("told at once", e)
	}
	w.Do(api.Act{What: api.ActCrash, Who: 5})
	if _, ok := alike.One(w, 5, read(1)); ok {
		t.Error("it is down")
	}
	if _, ok := alike.One(w, 3, read(1)); ok {
		t.Error("no gateway")
	}
	if _, ok := alike.One(nil, 5, read(1)); ok {
		t.Error("no world")
	}
}

func TestRun(t *testing.T) {
	l := []alike.Turn{
		{Ask: write(0, "a"), Mirrors: []int{3, 4}, Chain: []int{0, 1}}, {Ask: read(0)}, {Ask: read(0), Take: true, Who: 6, Chain: []int{2}}, {Ask: api.Ask{What: 7}}, {Ask: write(0, "b")},
		{Ask: read(0), Take: true, Who: 5, Mirrors: []int{0}, Chain: []int{1}}, {Ask: api.Ask{What: api.AskFlush}},
	}
	w := fresh()
	got, ok := alike.Run(w, 5, l)
	if want := alike.Flat(l, blocks); !ok || !slices.Equal(got, want) || got[5] != (api.Reply{ID: 5, Data: block("b")}) || got[3].Err != api.ErrInput {
		t.Errorf("%+v", got)
	}
	if events := w.History().All(); events[0].Gate != 5 || events[5].Gate != 6 || events[len(events)-1].Gate != 5 {
		t.Error("who took over last")
	}
	if got, ok := alike.Run(fresh(), 5, nil); got != nil || !ok || alike.Flat(nil, blocks) != nil {
		t.Error("of nothing")
	}
}

func TestRunEnds(t *testing.T) {
	l := []alike.Turn{{Ask: read(0), Chain: []int{0}}, {Ask: read(0)}, {Ask: read(0), Take: true, Who: 6}, {Ask: read(0)}}
	if got, ok := alike.Run(fresh(), 5, l); ok || len(got) != 2 || got[1].ID != 1 {
		t.Error("a taking over did not come", got)
	}
	if got, ok := alike.Run(fresh(), 5, []alike.Turn{{Ask: read(0)}}); ok || got != nil {
		t.Error("no chain")
	}
	w := fresh()
	l = []alike.Turn{{Ask: read(0), Take: true, Who: 6, Chain: []int{0}}}
	if got, ok := alike.Run(w, 5, l); !ok || len(got) != 1 || w.Gate(6).Wishes() != 1 || w.Gate(5).Wishes() != 0 {
		t.Error("the first turn's own gateway")
	}
}

// What one client is told is what plain memory tells (T5).
func TestNobodySeesHow(t *testing.T) {
	for seed := range uint64(12) {
		s := sched.New(seed, api.Weights{api.ActAsk: 8, api.ActTake: 1})
		var l []alike.Turn
		var take api.Act
		for _, a := range s.Acts(90, blocks+1) {
			if a.What == api.ActTake {
				take = a
				continue
			}
			x := alike.Turn{Ask: a.Ask, Take: len(take.Chain) > 0, Who: take.Who, Mirrors: take.Mirrors, Chain: take.Chain}
			if len(l) == 0 && !x.Take {
				x.Mirrors, x.Chain = []int{1, 2}, []int{3, 4}
			}
			l = append(l, x)
			take = api.Act{}
		}
		got, ok := alike.Run(fresh(), 5, l)
		if !ok || !slices.Equal(got, alike.Flat(l, blocks)) {
			t.Error(seed)
		}
	}
}
