package admit_test

import (
	"strings"
	"testing"

	"tarn/admit"
	"tarn/api"
	"tarn/calm"
	"tarn/msg"
	"tarn/world"
)

func fresh() *world.World {
	return world.New(api.Setup{Volume: api.Volume{Blocks: 8, Dirty: 4, Writes: 100}, Room: 4})
}

func serve(t *testing.T, w *world.World, who int, mirrors, chain []int) {
	t.Helper()
	if !calm.Serve(w, who, 1, mirrors, chain) {
		t.Fatal("it serves")
	}
	calm.Rounds(w, 5)
}

func may(t *testing.T, w *world.World, want string) {
	t.Helper()
	got := ""
	for n := -1; n < 7; n++ {
		if admit.Wipe(w, n) {
			got += string(rune('0' + n))
		}
	}
	if got != want {
		t.Errorf("%q, not %q", got, want)
	}
}

func TestWipe(t *testing.T) {
	w := fresh()
	may(t, w, "34")
	serve(t, w, 5, []int{3, 4}, []int{0, 1})
	may(t, w, "34")
	serve(t, w, 5, []int{3}, []int{0, 1})
	may(t, w, "4")
	serve(t, w, 5, []int{0, 1}, []int{4})
	may(t, w, "3")
	serve(t, w, 5, nil, []int{3, 4})
	may(t, w, "34")
	serve(t, w, 5, nil, []int{2})
	may(t, w, "34")
}

func TestWipeOfTheLastOne(t *testing.T) {
	w := fresh()
	serve(t, w, 5, nil, []int{3, 4})
	w.Do(api.Act{What: api.ActCrash, Who: 3})
	if admit.Play(w, []api.Act{{What: api.ActWipe, Who: 3}, {What: api.ActStart, Who: 3}}) != 2 {
		t.Error("the other one holds all")
	}
	may(t, w, "3")
}

// An epoch that is prepared, but does not work yet, may come to work.
func TestWipeOfAnEpochToCome(t *testing.T) {
	w := fresh()
	serve(t, w, 5, nil, []int{0})
	w.Do(api.Act{What: api.ActTake, Who: 6, Chain: []int{4}})
	for range 60 {
		calm.Round(w)
		if w.Gate(6).Phase() == api.TakeActive {
			break
		}
	}
	if w.Gate(6).Phase() != api.TakeActive {
		t.Fatal("all but active")
	}
	may(t, w, "3")
	calm.Rounds(w, 20)
	may(t, w, "3")
}

// What voters keep is looked at, decided or not; an epoch that they do not know any more is not lost.
func TestWipeOfAnEpochUnknown(t *testing.T) {
	w := fresh()
	c := api.Conf{Epoch: 3, By: 5, Count: 1, Chain: []int{4}}
	w.Node(4).Handle(api.Msg{Kind: api.MsgInstall, From: 5, To: 4, Conf: c})
	may(t, w, "34")
	w.Do(api.Act{What: api.ActSync, Who: 4})
	may(t, w, "3")
	active := c
	active.Chain = []int{0}
	w.Node(0).Handle(api.Msg{Kind: api.MsgInstall, From: 5, To: 0, Conf: active})
	w.Do(api.Act{What: api.ActSync, Who: 0})
	w.Node(1).Handle(api.Msg{Kind: api.MsgSnap, From: 0, To: 1, Term: 1, A: 4, B: 1, State: api.State{Epoch: 3, Active: active, Next: active}})
	may(t, w, "3")
	w.Do(api.Act{What: api.ActSync, Who: 1})
	may(t, w, "34")
}

func TestAct(t *testing.T) {
	w := fresh()
	vote := msg.Put(api.Msg{Kind: api.MsgVote, From: 1, To: 2, Term: 1})
	for _, a := range []api.Act{{What: api.ActCrash, Who: 0}, {What: api.ActTick, Who: 99}, {What: 77}, {What: api.ActWipe, Who: 4}, {What: api.ActJunk, S: "x"}} {
		if !admit.Act(w, a) || admit.Act(nil, a) {
			t.Error(a)
		}
	}
	if admit.Act(w, api.Act{What: api.ActWipe, Who: 2}) || admit.Act(w, api.Act{What: api.ActWipe, Who: 5}) || admit.Wipe(nil, 4) {
		t.Error("a voter, no node, no world")
	}
	if n := admit.Play(w, []api.Act{{What: api.ActJunk, S: vote}, {What: api.ActWipe, Who: 4}, {What: api.ActTick, Who: 0}, {What: 77}, {What: api.ActCrash, Who: 4}, {What: api.ActWipe, Who: 4}}); n != 3 || w.Node(4).Life() != 1 {
		t.Error("those that were done", n)
	}
	if admit.Play(nil, []api.Act{{What: api.ActTick}}) != 0 || admit.Play(w, nil) != 0 {
		t.Error("nothing")
	}
}

func TestNothingIsLost(t *testing.T) {
	w := fresh()
	serve(t, w, 5, []int{3, 4}, []int{3, 4})
	w.Do(api.Act{What: api.ActAsk, Who: 5, Ask: api.Ask{What: api.AskWrite, Data: strings.Repeat("a", 32)}})
	calm.Until(w, 5, 50)
	l := []api.Act{{What: api.ActCrash, Who: 3}, {What: api.ActWipe, Who: 3}, {What: api.ActStart, Who: 3}, {What: api.ActCrash, Who: 4}, {What: api.ActWipe, Who: 4}, {What: api.ActStart, Who: 4}}
	if n := admit.Play(w, l); n != 5 {
		t.Error("one of two", n)
	}
	w.Do(api.Act{What: api.ActAsk, Who: 6, Ask: api.Ask{Len: 32}})
	serve(t, w, 6, nil, []int{0})
	if e, ok := w.History().Find(2); !ok || e.Data != strings.Repeat("a", 32) {
		t.Error(e)
	}
}
