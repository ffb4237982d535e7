package world_test

import (
	"math"
	"strings"
	"testing"

	"tarn/api"
	"tarn/conf"
	"tarn/msg"
	"tarn/world"
)

func setup() api.Setup {
	return api.Setup{Volume: api.Volume{Blocks: 8, Dirty: 4, Writes: 100}, Room: 4}
}

func block(s string) string { return strings.Repeat(s, 32) }

func write(at int, s string) api.Ask {
	return api.Ask{What: api.AskWrite, At: at * 32, Data: block(s)}
}

func read(at int) api.Ask { return api.Ask{At: at * 32, Len: 32} }

// rounds lets all go well for a while, of who is up.
func rounds(w *world.World, many int) {
	for range many {
		for range w.Net().Len() {
			w.Do(api.Act{What: api.ActDeliver})
		}
		for who := range api.Nodes + api.Gates {
			w.Do(api.Act{What: api.ActTick, Who: who})
		}
		for who := range api.Nodes {
			w.Do(api.Act{What: api.ActSync, Who: who})
		}
	}
}

// take lets a gateway take over, and wants it to serve.
func take(t *testing.T, w *world.World, who int, mirrors, chain []int) {
	t.Helper()
	if !w.Do(api.Act{What: api.ActTake, Who: who, Mirrors: mirrors, Chain: chain}) {
		t.Fatal("it may take over")
	}
	rounds(w, 60)
	if conf.None(w.Gate(who).Conf()) {
		t.Fatal("it serves", w.Gate(who).Phase())
	}
}

// ask asks for something, and wants to be told.
func ask(t *testing.T, w *world.World, who int, a api.Ask, e api.Errno, data string) {
	t.Helper()
	if !w.Do(api.Act{What: api.ActAsk, Who: who, Ask: a}) {
		t.Fatal("asked")
	}
	l := w.History().Open()
	rounds(w, 20)
	last := w.History().All()
	got := last[len(last)-1]
	if !got.Answer || got.Err != e || got.Data != data || len(w.History().Open()) >= len(l) && len(l) > 0 {
		t.Errorf("%+v", got)
	}
}

func TestNew(t *testing.T) {
	if world.New(api.Setup{}) != nil || world.New(api.Setup{Volume: api.Volume{Blocks: 65, Dirty: 1}}) != nil {
		t.Error("a volume that may not be")
	}
	w := world.New(setup())
	for who := -2; who < 10; who++ {
		if w.Up(who) != (who >= 0 && who < 7) || (w.Node(who) != nil) != conf.Node(who) || (w.Gate(who) != nil) != conf.Gate(who) {
			t.Error(who)
		}
	}
	if w.Net().Len() != 0 || w.History().All() != nil || w.Setup() != setup() {
		t.Error("nothing happened")
	}
}

func TestTakeSaysThreeWishes(t *testing.T) {
	w := world.New(setup())
	if !w.Do(api.Act{What: api.ActTake, Who: 5, Mirrors: []int{3, 4}, Chain: []int{0, 1}}) || w.Net().Len() != 3 {
		t.Error(w.Net().Len())
	}
	if w.Do(api.Act{What: api.ActTake, Who: 5}) || w.Do(api.Act{What: api.ActTake, Who: 4, Chain: []int{0}}) {
		t.Error("what may not be")
	}
	w.Do(api.Act{What: api.ActCrash, Who: 5})
	if w.Up(5) || w.Do(api.Act{What: api.ActCrash, Who: 5}) || !w.Do(api.Act{What: api.ActStart, Who: 5}) || w.Do(api.Act{What: api.ActStart, Who: 5}) || w.Gate(5).Wishes() != 1 {
		t.Error("it knows how many wishes it had")
	}
}

func TestAsk(t *testing.T) {
	w := world.New(setup())
	if !w.Do(api.Act{What: api.ActAsk, Who: 6, Ask: api.Ask{What: 9}}) {
		t.Error("asked")
	}
	l := w.History().All()
	if len(l) != 2 || l[0].Gate != 6 || l[1].Gate != 6 || l[1].Err != api.ErrInput {
		t.Error("told at once", l)
	}
	w.Do(api.Act{What: api.ActCrash, Who: 6})
	if w.Do(api.Act{What: api.ActAsk, Who: 6, Ask: read(0)}) || w.Do(api.Act{What: api.ActAsk, Who: 0, Ask: read(0)}) || len(w.History().All()) != 2 {
		t.Error("it is down, or none")
	}
	for range api.MostEvents/2 - 1 {
		w.Do(api.Act{What: api.ActAsk, Who: 5, Ask: api.Ask{What: 9}})
	}
	if w.Do(api.Act{What: api.ActAsk, Who: 5, Ask: read(0)}) {
		t.Error("there are too many events")
	}
}

func TestNet(t *testing.T) {
	w := world.New(setup())
	for _, what := range []int{api.ActDeliver, api.ActDrop, api.ActDouble} {
		if w.Do(api.Act{What: what}) {
			t.Error("nothing is under way", what)
		}
	}
	vote := msg.Put(api.Msg{Kind: api.MsgVote, From: 1, To: 2, Term: 1})
	if w.Do(api.Act{What: api.ActJunk, S: vote}) || !w.Do(api.Act{What: api.ActJunk, S: "x"}) || !w.Do(api.Act{What: api.ActJunk}) {
		t.Error("junk is no message")
	}
	if !w.Do(api.Act{What: api.ActDouble, A: -1}) || w.Net().Len() != 3 || !w.Do(api.Act{What: api.ActDrop, A: 5}) || w.Net().Len() != 2 {
		t.Error("doubled, lost")
	}
	if w.Do(api.Act{What: api.ActDeliver}) || w.Net().Len() != 1 {
		t.Error("what is no message is gone")
	}
	w.Net().Clear()
	w.Net().Send(api.Msg{Kind: api.MsgSeal, From: 5, To: 4, Epoch: 1})
	w.Do(api.Act{What: api.ActCrash, Who: 4})
	if !w.Do(api.Act{What: api.ActDeliver}) || w.Net().Len() != 0 || w.Node(4).Held() != 0 {
		t.Error("to one that is down")
	}
}

func TestNodes(t *testing.T) {
	w := world.New(setup())
	for _, a := range []api.Act{
		{What: api.ActTick, Who: 7}, {What: api.ActTick, Who: -1}, {What: api.ActSync, Who: 5}, {What: api.ActSync, Who: 9}, {What: api.ActCrash, Who: 7}, {What: api.ActStart, Who: 7},
		{What: api.ActStart, Who: 0}, {What: api.ActWipe, Who: 4}, {What: api.ActWipe, Who: 5}, {What: -1}, {What: 12}, {What: math.MaxInt}, {What: api.ActSettle, Who: 5}, {What: api.ActSettle, Who: 1},
	} {
		if w.Do(a) {
			t.Error(a)
		}
	}
	for range 4 {
		w.Do(api.Act{What: api.ActTick, Who: 0})
	}
	if w.Net().Len() != 0 || !w.Do(api.Act{What: api.ActSync, Who: 0}) || w.Net().Len() != 2 {
		t.Error("what nodes say is held back")
	}
	if !w.Do(api.Act{What: api.ActTick, Who: 6}) || !w.Do(api.Act{What: api.ActCrash, Who: 4, A: 3, B: -1}) || w.Up(4) {
		t.Error("down")
	}
	for _, what := range []int{api.ActTick, api.ActSync, api.ActCrash} {
		if w.Do(api.Act{What: what, Who: 4}) {
			t.Error("of one that is down", what)
		}
	}
	if !w.Do(api.Act{What: api.ActWipe, Who: 4}) || !w.Do(api.Act{What: api.ActStart, Who: 4}) || w.Node(4).Life() != 1 {
		t.Error("wiped")
	}
}

// The examples of the whole.
func TestWhole(t *testing.T) {
	w := world.New(setup())
	take(t, w, 5, []int{3, 4}, []int{0, 1})
	ask(t, w, 5, write(2, "a"), api.OK, "")
	for _, n := range []int{3, 4} {
		if len(w.Node(n).Member().Mirror().Dirty()) != 1 {
			t.Error("both mirrors have it")
		}
	}
	if w.Node(0).Member().Chain().All() != nil {
		t.Error("the chain not yet")
	}
	if !w.Do(api.Act{What: api.ActSettle, Who: 5}) {
		t.Error("settle")
	}
	rounds(w, 20)
	for _, n := range []int{0, 1} {
		if w.Node(n).Member().Chain().Load(2).Data != block("a") {
			t.Error("both nodes of the chain have it")
		}
	}
	if k, _ := w.Node(3).Member().Mirror().Check(2); k != api.ValueClean {
		t.Error("the mirrors keep it clean")
	}
	ask(t, w, 5, write(3, "b"), api.OK, "")
	w.Do(api.Act{What: api.ActCrash, Who: 5})
	take(t, w, 6, []int{2}, []int{4})
	if w.Node(4).Member().Chain().Load(3).Data != block("b") {
		t.Error("what was dirty is in its chain")
	}
	ask(t, w, 6, read(3), api.OK, block("b"))
}

func TestElderGateway(t *testing.T) {
	w := world.New(setup())
	take(t, w, 5, []int{3, 4}, []int{0, 1})
	ask(t, w, 5, write(2, "a"), api.OK, "")
	take(t, w, 6, []int{3, 2}, []int{0, 1})
	w.Do(api.Act{What: api.ActAsk, Who: 5, Ask: write(2, "z")})
	w.Do(api.Act{What: api.ActAsk, Who: 5, Ask: read(2)})
	rounds(w, 30)
	if conf.None(w.Gate(5).Conf()) || len(w.History().Open()) != 2 {
		t.Error("it serves still, as it thinks: no mirror answers it")
	}
	ask(t, w, 6, read(2), api.OK, block("a"))
}

func TestTwoVotersDown(t *testing.T) {
	w := world.New(setup())
	take(t, w, 5, []int{3, 4}, []int{2, 3})
	for _, n := range []int{0, 1} {
		w.Do(api.Act{What: api.ActCrash, Who: n})
	}
	w.Do(api.Act{What: api.ActTake, Who: 6, Mirrors: []int{3}, Chain: []int{4}})
	rounds(w, 60)
	if w.Gate(6).Phase() != api.TakeWish {
		t.Error("no gateway can take over")
	}
	ask(t, w, 5, write(1, "q"), api.OK, "")
	ask(t, w, 5, read(1), api.OK, block("q"))
}

func TestNone(t *testing.T) {
	var w *world.World
	if w.Node(0) != nil || w.Gate(5) != nil || w.Net() != nil || w.History() != nil || w.Setup() != (api.Setup{}) || w.Up(0) || w.Do(api.Act{What: api.ActTick}) {
		t.Error("of none")
	}
	zero := &world.World{}
	for what := -1; what < 14; what++ {
		for who := -1; who < 9; who++ {
			if zero.Do(api.Act{What: what, Who: who}) && what != api.ActJunk {
				t.Error("one that was not made", what, who)
			}
		}
	}
}
