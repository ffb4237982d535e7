package calm_test

import (
	"math"
	"strings"
	"testing"

	"tarn/api"
	"tarn/calm"
	"tarn/conf"
	"tarn/world"
)

func fresh() *world.World {
	return world.New(api.Setup{Volume: api.Volume{Blocks: 8, Dirty: 4, Writes: 100}, Room: 4})
}

func ask(w *world.World, who int, a api.Ask) { w.Do(api.Act{What: api.ActAsk, Who: who, Ask: a}) }

func write(at int) api.Ask {
	return api.Ask{What: api.AskWrite, At: at * 32, Data: strings.Repeat("a", 32)}
}

func crash(w *world.World, l ...int) {
	for _, who := range l {
		w.Do(api.Act{What: api.ActCrash, Who: who})
	}
}

func TestStart(t *testing.T) {
	w := fresh()
	crash(w, 0, 3, 6)
	calm.Start(w)
	for who := range 7 {
		if !w.Up(who) {
			t.Error(who)
		}
	}
}

func TestRound(t *testing.T) {
	w := fresh()
	w.Net().Send(api.Msg{Kind: api.MsgSeal, From: 5, To: 3, Epoch: 1})
	w.Net().Send(api.Msg{Kind: api.MsgSeal, From: 5, To: 4, Epoch: 2})
	w.Do(api.Act{What: api.ActJunk, S: "x"})
	calm.Round(w)
	if w.Net().Len() != 2 || w.Node(4).Member().Promised() != 2 || w.Node(3).Held() != 0 {
		t.Error("as many as are under way come, nodes make sure what they are")
	}
	for range 3 {
		calm.Round(w)
	}
	if w.Node(0).Raft().Role() != api.RoleAsks || w.Net().Len() != 2 {
		t.Error("time goes on")
	}
	w.Do(api.Act{What: api.ActTake, Who: 5, Chain: []int{0}})
	w.Net().Clear()
	calm.Round(w)
	if w.Net().Len() != 3 {
		t.Error("at gateways, too", w.Net().Len())
	}
	crash(w, 0, 5)
	calm.Round(w)
}

func TestRounds(t *testing.T) {
	w := fresh()
	for most, want := range map[int]int{0: 0, -1: 0, math.MinInt: 0, 7: 7} {
		if calm.Rounds(w, most) != want {
			t.Error(most)
		}
	}
	if calm.Rounds(w, math.MaxInt) != api.MostRounds || calm.Rounds(nil, 5) != 5 {
		t.Error("MostRounds")
	}
}

func TestUntil(t *testing.T) {
	w := fresh()
	if calm.Until(w, 5, 9) != 9 || calm.Until(w, 9, 3) != 3 || calm.Until(nil, 5, 3) != 3 {
		t.Error("it does not serve")
	}
	w.Do(api.Act{What: api.ActTake, Who: 5, Mirrors: []int{3}, Chain: []int{0}})
	n := calm.Until(w, 5, 200)
	if n < 3 || n > 30 || conf.None(w.Gate(5).Conf()) || calm.Until(w, 5, 200) != 0 {
		t.Error("until it serves", n)
	}
	ask(w, 5, write(1))
	if n := calm.Until(w, 5, 200); n < 1 || n > 5 || w.History().Open() != nil {
		t.Error("until nobody waits", n)
	}
	w.Do(api.Act{What: api.ActSettle, Who: 5})
	if n := calm.Until(w, 5, 200); n < 1 || !w.Gate(5).Idle() {
		t.Error("until nothing is being done", n)
	}
}

func TestServe(t *testing.T) {
	w := fresh()
	if !calm.Serve(w, 5, 0, []int{3, 4}, []int{0, 1}) || len(w.Gate(5).Conf().Chain) != 2 {
		t.Fatal("of a new world")
	}
	crash(w, 1, 4, 6)
	w.Do(api.Act{What: api.ActStart, Who: 6})
	w.Do(api.Act{What: api.ActTake, Who: 5, Chain: []int{0}})
	ask(w, 6, write(3))
	ask(w, 6, write(4))
	if !calm.Serve(w, 6, 4, []int{3}, []int{2}) || len(w.History().Open()) != 0 || w.Gate(5).Phase() != api.TakeLost || w.Gate(5).Wishes() != 2 || !w.Up(1) {
		t.Error("the other one begins anew, and all is done", w.History().Open())
	}
	if calm.Serve(w, 6, 0, nil, nil) || calm.Serve(w, 4, 0, nil, []int{0}) || calm.Serve(nil, 5, 0, nil, []int{0}) {
		t.Error("it could not be")
	}
}

// Where another one's wish is newer it takes over again.
func TestServeAgain(t *testing.T) {
	w := fresh()
	w.Do(api.Act{What: api.ActTake, Who: 6, Chain: []int{0}})
	calm.Rounds(w, 9)
	for w.Net().Len() < 200 {
		w.Do(api.Act{What: api.ActTick, Who: 6})
	}
	w.Do(api.Act{What: api.ActTake, Who: 6, Chain: []int{1}})
	if !calm.Serve(w, 5, 0, []int{3}, []int{2}) {
		t.Error("again")
	}
}

func TestSettle(t *testing.T) {
	w := fresh()
	if calm.Settle(w, 5) || calm.Settle(w, 1) || calm.Settle(nil, 5) {
		t.Error("it does not serve")
	}
	calm.Serve(w, 5, 0, []int{3, 4}, []int{0, 1})
	if !calm.Settle(w, 5) {
		t.Error("nothing is dirty")
	}
	for at := range 4 {
		ask(w, 5, write(at))
	}
	ask(w, 5, api.Ask{Len: 128})
	if !calm.Settle(w, 5) {
		t.Error("while clients wait")
	}
	calm.Until(w, 5, 100)
	if !calm.Settle(w, 5) || w.Gate(5).Dirty() != nil || len(w.Node(1).Member().Chain().All()) != 4 {
		t.Error("all is in the chain")
	}
	ask(w, 5, write(0))
	calm.Until(w, 5, 100)
	crash(w, 1)
	if calm.Settle(w, 5) || len(w.Gate(5).Dirty()) != 1 {
		t.Error("the chain is broken")
	}
}
