// Package whole holds the whole against the promises of all layers together.
package whole

import (
	"os"
	"strconv"
	"strings"
	"testing"

	"tarn/admit"
	"tarn/api"
	"tarn/audit"
	"tarn/calm"
	"tarn/flat"
	"tarn/plan"
	"tarn/pledge"
	"tarn/sched"
	"tarn/search"
	"tarn/stat"
	"tarn/world"
)

const blocks = 4

// runs is how many scripts a test plays; TARN_RUNS lets it play more.
func runs(many int) int {
	if n, err := strconv.Atoi(os.Getenv("TARN_RUNS")); err == nil {
		return n
	}
	return many
}

func fresh(seed uint64) *world.World {
	return world.New(api.Setup{Volume: api.Volume{Blocks: blocks, Dirty: 1 + int(seed%5), Writes: 8 + int(seed%40)}, Room: int(seed % 4)})
}

// weights is what scripts are drawn with: some fail often, some seldom.
func weights(seed uint64) api.Weights {
	w := api.Weights{
		api.ActAsk: 10, api.ActTake: 2, api.ActSettle: 6, api.ActDeliver: 90, api.ActDrop: 2, api.ActDouble: 3, api.ActJunk: 1,
		api.ActTick: 30, api.ActSync: 60, api.ActCrash: 1, api.ActStart: 6, api.ActWipe: 1,
	}
	switch seed % 4 {
	case 1:
		w[api.ActCrash], w[api.ActTake], w[api.ActWipe] = 4, 4, 6
	case 2:
		w[api.ActDrop], w[api.ActDouble] = 10, 14
	case 3:
		w = sched.Even()
	}
	return w
}

// only makes of trims readings, so that each value is written once.
func only(l []api.Act) []api.Act {
	for i := range l {
		if l[i].Ask.What == api.AskTrim {
			l[i].Ask.What = api.AskRead
		}
	}
	return l
}

// play plays a drawn script, with some calm rounds in it, and looks whether all is as it must be.
func play(t *testing.T, seed uint64, many int) *world.World {
	t.Helper()
	w := fresh(seed)
	s := sched.New(seed, weights(seed))
	for range many {
		admit.Play(w, only(s.Acts(40, blocks)))
		switch s.Below(8) {
		case 0, 1:
			calm.Rounds(w, s.Below(12))
		case 2:
			serve(t, seed, w, s)
		case 3:
			lose(w, api.Voters+s.Below(api.Nodes-api.Voters))
		}
		if wrong := audit.All(w); wrong != 0 {
			t.Fatal("seed", seed, "wrong", wrong)
		}
	}
	return w
}

// lose lets a node's disk be lost, if it may be.
func lose(w *world.World, n int) {
	w.Do(api.Act{What: api.ActCrash, Who: n})
	admit.Play(w, []api.Act{{What: api.ActWipe, Who: n}, {What: api.ActStart, Who: n}})
}

// serve lets a gateway serve, in the midst of a script.
func serve(t *testing.T, seed uint64, w *world.World, s *sched.Sched) {
	t.Helper()
	who := api.Nodes + s.Below(api.Gates)
	first, many := s.Below(api.Nodes), s.Below(api.MostCopies+1)
	var mirrors []int
	for i := range many {
		mirrors = append(mirrors, (first+i)%api.Nodes)
	}
	if !calm.Serve(w, who, waiting(w, who), mirrors, []int{s.Below(2), 2 + s.Below(3)}) {
		t.Fatal("seed", seed, "nobody serves in the midst")
	}
}

// fits holds a history against T1 and T3.
func fits(t *testing.T, seed uint64, w *world.World) {
	t.Helper()
	l := w.History().All()
	for b := range blocks {
		if !flat.Fits(l, blocks, b) || !search.Order(search.Uses(l, blocks, b), strings.Repeat("\x00", 32)) {
			t.Fatal("seed", seed, "block", b, "does not fit")
		}
	}
	told := map[int]bool{}
	for _, e := range l {
		if !e.Answer {
			continue
		}
		if told[e.ID] || e.Err != api.OK && e.Err != api.ErrBusy && e.Err != api.ErrReadOnly {
			t.Fatal("seed", seed, e)
		}
		told[e.ID] = true
	}
}

// readAll reads all blocks at a gateway that serves.
func readAll(t *testing.T, seed uint64, w *world.World, who int) string {
	t.Helper()
	first := len(w.History().All())
	for b := range blocks {
		w.Do(api.Act{What: api.ActAsk, Who: who, Ask: api.Ask{At: b * 32, Len: 32}})
	}
	calm.Until(w, who, 200)
	all := ""
	for _, e := range w.History().All()[first:] {
		if e.Answer && e.Err == api.OK {
			all += e.Data
		}
	}
	return all
}

// waiting is what clients wait for at a gateway.
func waiting(w *world.World, who int) int {
	var l []api.Ask
	for _, id := range w.History().Open() {
		for _, e := range w.History().All() {
			if !e.Answer && e.ID == id && e.Gate == who {
				l = append(l, e.Ask)
			}
		}
	}
	return plan.Parts(l, w.Setup().Volume)
}

func TestScripts(t *testing.T) {
	var sum api.Stat
	for i := range runs(60) {
		seed := uint64(i)
		w := play(t, seed, 25)
		fits(t, seed, w)
		who := api.Nodes + i%2
		parts := waiting(w, who)
		if i%3 == 0 {
			for n := range api.Nodes + api.Gates {
				w.Do(api.Act{What: api.ActCrash, Who: n, A: n % 4, B: i * 12345})
			}
		}
		if !calm.Serve(w, who, parts, []int{i % 5, (i + 1) % 5}[:i%3], []int{(i + 2) % 5, (i + 4) % 5}[:1+i%2]) {
			t.Fatal("seed", seed, "nobody serves")
		}
		before := w.History().All()
		if got := readAll(t, seed, w, who); pledge.All(before, blocks, got) != -1 {
			t.Fatal("seed", seed, "block", pledge.All(before, blocks, got), "is not kept")
		}
		if !calm.Settle(w, who) || audit.All(w) != 0 {
			t.Fatal("seed", seed, "is not settled")
		}
		fits(t, seed, w)
		s := stat.Of(w.History().All())
		sum.Done += s.Done
		sum.Errors += s.Errors
		sum.Waits += s.Waits
	}
	t.Logf("%+v", sum)
	if sum.Done < 5*runs(60) {
		t.Error("too little was done for this to tell anything")
	}
}
