package stat_test

import (
	"fmt"
	"math"
	"strings"
	"testing"

	"tarn/api"
	"tarn/calm"
	"tarn/stat"
	"tarn/world"
)

func block(s string) string { return strings.Repeat(s, 32) }

func ask(id int, a api.Ask) api.Event { return api.Event{ID: id, Ask: a} }

func told(id int, e api.Errno, data string) api.Event {
	return api.Event{Answer: true, ID: id, Err: e, Data: data}
}

func TestOf(t *testing.T) {
	w := api.Ask{What: api.AskWrite, Data: block("a") + block("b")}
	l := []api.Event{
		ask(1, w), ask(2, api.Ask{Len: 32}), told(9, api.OK, block("z")), told(1, api.OK, ""), ask(3, api.Ask{What: api.AskTrim, Len: 32}), told(2, api.OK, block("x")),
		told(3, api.OK, ""), told(3, api.OK, block("y")), ask(4, w), told(4, api.ErrBusy, ""), ask(5, w), ask(6, api.Ask{Len: 32}), ask(5, w), told(5, api.OK, ""),
	}
	want := api.Stat{Asked: 7, Done: 4, Errors: 1, Waits: 1, Longest: 4, Sum: 3 + 4 + 2 + 1 + 1, Read: 32, Written: 128}
	if got := stat.Of(l); got != want {
		t.Errorf("%+v", got)
	}
	if stat.Of(nil) != (api.Stat{}) {
		t.Error("of nothing")
	}
}

func fresh() *world.World {
	return world.New(api.Setup{Volume: api.Volume{Blocks: 8, Dirty: 4, Writes: 100}, Room: 4})
}

func TestKinds(t *testing.T) {
	w := fresh()
	w.Do(api.Act{What: api.ActTake, Who: 5, Chain: []int{0}})
	w.Do(api.Act{What: api.ActJunk, S: "x"})
	w.Do(api.Act{What: api.ActJunk})
	w.Net().Send(api.Msg{Kind: api.MsgSnap})
	want := [api.MsgSnap + 1]int{0: 2, api.MsgWish: 3, api.MsgSnap: 1}
	if got := stat.Kinds(w); got != want {
		t.Error(got)
	}
	if stat.Kinds(nil) != [api.MsgSnap + 1]int{} {
		t.Error("of none")
	}
}

func TestCopies(t *testing.T) {
	w := fresh()
	calm.Serve(w, 5, 0, []int{3, 4}, []int{0, 1, 3})
	for _, at := range []int{1, 2} {
		w.Do(api.Act{What: api.ActAsk, Who: 5, Ask: api.Ask{What: api.AskWrite, At: at * 32, Data: block("a")}})
	}
	w.Do(api.Act{What: api.ActAsk, Who: 5, Ask: api.Ask{What: api.AskTrim, At: 64, Len: 32, Sure: true}})
	calm.Until(w, 5, 100)
	if got := fmt.Sprint(stat.Copies(w, 4)); got != "[0 2 4 0]" {
		t.Error(got)
	}
	w.Do(api.Act{What: api.ActCrash, Who: 4})
	if got := fmt.Sprint(stat.Copies(w, 3)); got != "[0 1 3]" {
		t.Error("one is down", got)
	}
	w.Do(api.Act{What: api.ActCrash, Who: 3})
	if got := fmt.Sprint(stat.Copies(w, 3)); got != "[0 0 2]" {
		t.Error("two are down", got)
	}
	if len(stat.Copies(w, math.MaxInt)) != api.MostBlocks || stat.Copies(w, 0) != nil || stat.Copies(w, -1) != nil || fmt.Sprint(stat.Copies(nil, 2)) != "[0 0]" {
		t.Error("of each block")
	}
}
