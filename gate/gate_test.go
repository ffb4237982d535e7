package gate_test

import (
	"slices"
	"strings"
	"testing"

	"tarn/api"
	"tarn/conf"
	"tarn/decide"
	"tarn/disk"
	"tarn/gate"
	"tarn/journal"
	"tarn/member"
	"tarn/msg"
	"tarn/ver"
)

func block(s string) string { return strings.Repeat(s, 32) }

func read(at, n int) api.Ask { return api.Ask{At: at * 32, Len: n * 32} }

func write(at int, letters string) api.Ask {
	data := ""
	for _, r := range letters {
		data += block(string(r))
	}
	return api.Ask{What: api.AskWrite, At: at * 32, Data: data}
}

func trim(at, n int) api.Ask { return api.Ask{What: api.AskTrim, At: at * 32, Len: n * 32} }

func sure(a api.Ask) api.Ask {
	a.Sure = true
	return a
}

func flush() api.Ask { return api.Ask{What: api.AskFlush} }

// bench is a gateway, nodes that answer at once, and what voters decided.
type bench struct {
	g     *gate.Gate
	nodes [api.Nodes]*member.Member
	state api.State
	seen  []api.Msg // what was told to nodes
}

func fresh(v api.Volume) *bench {
	b := &bench{g: gate.New(5, v, 0)}
	for n := range b.nodes {
		d, _ := disk.New(600)
		j, _ := journal.Open(d)
		b.nodes[n] = member.Load(j, n, 4, 0)
	}
	return b
}

// one lets nodes hear a message, and hands on what they say.
func (b *bench) one(m api.Msg) {
	b.seen = append(b.seen, m)
	if m.Kind == api.MsgWish {
		b.state = decide.Do(b.state, m.Cmd)
		b.g.Hear(api.Msg{Kind: api.MsgState, From: m.To, To: 5, State: b.state})
		return
	}
	for _, answer := range b.nodes[m.To].Handle(m) {
		if answer.To == 5 {
			b.g.Hear(answer)
		} else {
			b.one(answer)
		}
	}
}

// run lets all that the gateway says be answered.
func (b *bench) run() {
	for l := b.g.Out(); len(l) > 0; l = b.g.Out() {
		for _, m := range l {
			b.one(m)
		}
	}
}

// serving is a bench whose gateway took over.
func serving(t *testing.T, v api.Volume, mirrors, chain []int) *bench {
	t.Helper()
	b := fresh(v)
	b.take(t, mirrors, chain)
	return b
}

func (b *bench) take(t *testing.T, mirrors, chain []int) {
	t.Helper()
	if !b.g.Take(mirrors, chain) {
		t.Fatal("take")
	}
	b.run()
	if b.g.Phase() != api.TakeDone || !slices.Equal(b.g.Conf().Chain, chain) || !slices.Equal(b.g.Conf().Mirrors, mirrors) {
		t.Fatal("it serves", b.g.Phase())
	}
	b.seen = nil
}

// ask asks for something, lets all be answered, and wants one reply.
func (b *bench) ask(t *testing.T, a api.Ask, e api.Errno, data string) {
	t.Helper()
	b.g.Ask(77, a)
	b.run()
	if l := b.g.Told(); len(l) != 1 || l[0] != (api.Reply{ID: 77, Err: e, Data: data}) {
		t.Errorf("%+v", l)
	}
}

func (b *bench) kinds() []int {
	var l []int
	for _, m := range b.seen {
		l = append(l, m.Kind)
	}
	b.seen = nil
	return l
}

var volume = api.Volume{Blocks: 8, Dirty: 3, Writes: 100}

func TestNew(t *testing.T) {
	for i, g := range []*gate.Gate{
		gate.New(4, volume, 0), gate.New(7, volume, 0), gate.New(5, volume, -1), gate.New(5, volume, api.MostCount+1), gate.New(5, api.Volume{Blocks: 0, Dirty: 1}, 0),
		gate.New(5, api.Volume{Blocks: api.MostBlocks + 1, Dirty: 1}, 0), gate.New(5, api.Volume{Blocks: 1, Dirty: 0}, 0), gate.New(5, api.Volume{Blocks: 1, Dirty: 1, Writes: -1}, 0),
	} {
		if g != nil {
			t.Error(i)
		}
	}
	g := gate.New(6, api.Volume{Blocks: api.MostBlocks, Dirty: 1 << 40, Writes: 0}, api.MostCount)
	if g.Wishes() != api.MostCount || g.Phase() != api.TakeLost || !conf.None(g.Conf()) || g.Waits() != 0 || g.Dirty() != nil || !g.Idle() || g.Settle(0) {
		t.Error("a new one")
	}
	if g.Take(nil, []int{0}) || g.Wishes() != api.MostCount {
		t.Error("its wishes are used up")
	}
}

func TestTake(t *testing.T) {
	b := fresh(volume)
	if b.g.Take(nil, nil) || b.g.Take([]int{0, 0}, []int{1}) || b.g.Wishes() != 0 || b.g.Out() != nil {
		t.Error("lists that may not be")
	}
	if !b.g.Take([]int{3, 4}, []int{0, 1}) || b.g.Phase() != api.TakeWish || b.g.Wishes() != 1 {
		t.Error("its first wish")
	}
	out := b.g.Out()
	if len(out) != 3 || out[0].Kind != api.MsgWish || out[0].Cmd.Conf.Count != 1 || b.g.Out() != nil {
		t.Error("three wishes", out)
	}
	b.g.Tick()
	if again := b.g.Out(); len(again) != 3 || !msg.Same(again[1], out[1]) {
		t.Error("said again", again)
	}
	b.g.Ask(1, read(0, 1))
	if b.g.Waits() != 1 || b.g.Told() != nil || !b.g.Idle() {
		t.Error("it waits")
	}
	b.one(out[0])
	b.run()
	if b.g.Phase() != api.TakeDone || b.g.Conf().Epoch != 1 || b.g.Waits() != 0 || len(b.g.Told()) != 1 {
		t.Error("it serves")
	}
}

func TestLost(t *testing.T) {
	b := fresh(volume)
	b.g.Take(nil, []int{0})
	b.g.Hear(api.Msg{Kind: api.MsgState, From: 0, To: 5, State: api.State{Epoch: 9, Seen: [2]int{1, 9}}})
	b.g.Out()
	b.g.Tick()
	if b.g.Phase() != api.TakeLost || b.g.Out() != nil || !conf.None(b.g.Conf()) {
		t.Error("lost")
	}
}

func TestReadWriteTrim(t *testing.T) {
	for _, mirrors := range [][]int{nil, {3, 4}} {
		b := serving(t, volume, mirrors, []int{0, 1})
		b.ask(t, read(0, 2), api.OK, block("\x00")+block("\x00"))
		b.ask(t, write(2, "ab"), api.OK, "")
		b.ask(t, read(1, 3), api.OK, block("\x00")+block("a")+block("b"))
		b.ask(t, trim(3, 2), api.OK, "")
		b.ask(t, write(2, "c"), api.OK, "")
		b.ask(t, read(2, 2), api.OK, block("c")+block("\x00"))
		for _, a := range []api.Ask{read(8, 1), {What: 9}, {At: 1, Len: 32}, write(7, "ab")} {
			b.ask(t, a, api.ErrInput, "")
		}
		if b.g.Waits() != 0 || !b.g.Idle() {
			t.Error("nobody waits")
		}
	}
}

func TestDirty(t *testing.T) {
	b := serving(t, volume, []int{3, 4}, []int{0, 1})
	b.ask(t, write(2, "ab"), api.OK, "")
	first := api.Item{Ver: ver.Of(1, 1), Data: block("a")}
	if l := b.g.Dirty(); len(l) != 2 || l[0] != (api.Held{Block: 2, Item: first}) || l[1].Item.Ver != ver.Of(1, 2) {
		t.Error("versions are given one by one", l)
	}
	if !slices.Equal(b.kinds(), []int{api.MsgPut, api.MsgPut, api.MsgPut, api.MsgPut}) || b.nodes[0].Chain().All() != nil {
		t.Error("mirrors have it, the chain not yet")
	}
	b.ask(t, write(5, "cd"), api.ErrBusy, "")
	b.ask(t, sure(write(5, "cd")), api.ErrBusy, "")
	b.ask(t, trim(2, 3), api.OK, "")
	b.ask(t, write(6, "e"), api.ErrBusy, "")
	b.ask(t, read(6, 1), api.OK, block("\x00"))
	b.ask(t, sure(write(3, "f")), api.OK, "")
	if l := b.g.Dirty(); len(l) != 2 || l[0].Block != 2 || l[1].Block != 4 || b.nodes[1].Chain().Load(3).Data != block("f") {
		t.Error("a sure one is not dirty", l)
	}
	for _, n := range []int{3, 4} {
		if k, x := b.nodes[n].Mirror().Check(3); k != api.ValueClean || x.Data != block("f") {
			t.Error("the mirrors keep it clean")
		}
	}
}

func TestSettle(t *testing.T) {
	b := serving(t, volume, []int{3}, []int{0, 1})
	if b.g.Settle(0) {
		t.Error("none is dirty")
	}
	b.ask(t, write(2, "abc"), api.OK, "")
	for _, c := range []struct{ n, left int }{{-1, 2}, {5, 1}, {1 << 40, 0}} {
		was := b.g.Dirty()
		if !b.g.Settle(c.n) || b.g.Idle() || b.g.Settle(c.n) {
			t.Fatal("settles one")
		}
		b.g.Ask(5, read(0, 1))
		if b.g.Waits() != 1 {
			t.Error("one thing at a time")
		}
		b.run()
		b.g.Told()
		if l := b.g.Dirty(); len(l) != c.left {
			t.Error(was, l)
		}
	}
	if l := b.nodes[1].Chain().All(); len(l) != 3 || b.nodes[3].Mirror().Dirty() != nil {
		t.Error("all is in the chain", l)
	}
}

func TestSettleCountsRound(t *testing.T) {
	for n, want := range map[int]int{0: 1, 1: 3, 2: 6, 3: 1, -1: 6, -4: 6, -3: 1} {
		b := serving(t, volume, []int{3}, []int{0})
		for _, at := range []int{6, 1, 3} {
			b.ask(t, write(at, "a"), api.OK, "")
		}
		b.g.Settle(n)
		b.run()
		if b.nodes[0].Chain().Load(want).Data == "" || len(b.g.Dirty()) != 2 {
			t.Error(n)
		}
	}
}

func TestFlush(t *testing.T) {
	b := serving(t, volume, []int{3, 4}, []int{0, 1})
	b.ask(t, flush(), api.OK, "")
	if b.kinds() != nil {
		t.Error("nothing was dirty")
	}
	b.ask(t, write(5, "a"), api.OK, "")
	b.ask(t, write(1, "b"), api.OK, "")
	b.kinds()
	b.g.Ask(1, flush())
	if m := b.g.Out()[0]; m.Kind != api.MsgStore || m.Block != 1 {
		t.Error("the first one first", m)
	}
	b.g.Tick()
	b.run()
	if b.g.Dirty() != nil || len(b.g.Told()) != 1 || b.nodes[0].Chain().Load(5).Data != block("a") {
		t.Error("all dirty blocks")
	}
}

func TestReadOnly(t *testing.T) {
	v := volume
	v.Writes = 3
	b := serving(t, v, nil, []int{0})
	b.ask(t, write(0, "ab"), api.OK, "")
	b.ask(t, write(0, "cd"), api.ErrReadOnly, "")
	b.ask(t, write(0, "e"), api.OK, "")
	b.ask(t, trim(0, 1), api.ErrReadOnly, "")
	b.ask(t, read(0, 2), api.OK, block("e")+block("b"))
	b.ask(t, flush(), api.OK, "")
	b.take(t, nil, []int{1})
	b.ask(t, trim(0, 1), api.OK, "")
	v.Writes, v.Dirty = 0, 1
	b = serving(t, v, []int{3}, []int{0})
	b.ask(t, write(0, "ab"), api.ErrReadOnly, "")
}

func TestWarm(t *testing.T) {
	b := serving(t, volume, nil, []int{0})
	b.ask(t, write(1, "a"), api.OK, "")
	b.ask(t, read(1, 1), api.OK, block("a"))
	if slices.Contains(b.kinds(), api.MsgWarm) {
		t.Error("there are no mirrors")
	}
	b.take(t, []int{4, 3}, []int{0})
	b.ask(t, read(1, 1), api.OK, block("a"))
	if !slices.Equal(b.kinds(), []int{api.MsgCheck, api.MsgCheck, api.MsgLoad, api.MsgWarm, api.MsgWarm}) {
		t.Error("of the chain")
	}
	b.ask(t, read(1, 1), api.OK, block("a"))
	if !slices.Equal(b.kinds(), []int{api.MsgCheck, api.MsgCheck}) {
		t.Error("of mirrors")
	}
}

func TestMostWait(t *testing.T) {
	b := fresh(volume)
	for i := range api.MostWait {
		b.g.Ask(i, read(0, 1))
	}
	b.g.Ask(100, read(0, 1))
	b.g.Ask(101, api.Ask{What: 9})
	if l := b.g.Told(); len(l) != 2 || l[0] != (api.Reply{ID: 100, Err: api.ErrBusy}) || l[1] != (api.Reply{ID: 101, Err: api.ErrInput}) || b.g.Waits() != api.MostWait {
		t.Error(l)
	}
	b.take(t, []int{3}, []int{0})
	if l := b.g.Told(); len(l) != api.MostWait || l[0].ID != 0 || l[63].ID != 63 {
		t.Error("in their order", len(l))
	}
}

func TestTakeForgetsWhatWasBegun(t *testing.T) {
	b := serving(t, volume, []int{3, 4}, []int{0, 1})
	b.ask(t, write(0, "x"), api.OK, "")
	b.g.Ask(1, write(1, "ab"))
	b.g.Ask(2, read(0, 1))
	b.g.Out()
	b.g.Tick()
	if l := b.g.Out(); len(l) != 2 || l[0].Kind != api.MsgPut || b.g.Waits() != 2 {
		t.Error("said again", l)
	}
	b.take(t, []int{3}, []int{1})
	if l := b.g.Told(); len(l) != 1 || l[0] != (api.Reply{ID: 2, Data: block("x")}) || b.g.Waits() != 0 || b.g.Dirty() != nil {
		t.Error("what was begun is never told", l)
	}
	b.ask(t, write(0, "y"), api.OK, "")
	if b.g.Dirty()[0].Item.Ver != ver.Of(2, 1) {
		t.Error("from the epoch's first version on")
	}
	b.g.Settle(0)
	b.g.Ask(3, read(0, 1))
	b.g.Out()
	b.take(t, nil, []int{2})
	if l := b.g.Told(); len(l) != 1 || l[0] != (api.Reply{ID: 3, Data: block("y")}) {
		t.Error("what was not begun is", l)
	}
}

func TestNone(t *testing.T) {
	var g *gate.Gate
	g.Ask(1, read(0, 1))
	g.Tick()
	g.Hear(api.Msg{})
	if g.Out() != nil || g.Told() != nil || g.Wishes() != 0 || !conf.None(g.Conf()) || g.Phase() != api.TakeLost || g.Waits() != 0 || g.Dirty() != nil || !g.Idle() || g.Take(nil, []int{0}) || g.Settle(0) {
		t.Error("of none")
	}
	zero := &gate.Gate{}
	zero.Ask(1, read(0, 1))
	zero.Ask(1, flush())
	zero.Tick()
	zero.Hear(api.Msg{Kind: api.MsgState})
	if zero.Take(nil, []int{0}) || zero.Settle(0) {
		t.Error("one that was not made")
	}
}
