package take_test

import (
	"slices"
	"strings"
	"testing"

	"tarn/api"
	"tarn/conf"
	"tarn/msg"
	"tarn/take"
)

func held(block int, ver uint64) api.Held {
	return api.Held{Block: block, Item: api.Item{Ver: ver, Data: strings.Repeat("a", 32)}}
}

// wish is the third wish of the gateway 5, as it is decided as an epoch.
func wish(epoch int) api.Conf {
	return api.Conf{Epoch: epoch, By: 5, Count: 3, Mirrors: []int{3, 1}, Chain: []int{1, 0}}
}

func state(s api.State) api.Msg { return api.Msg{Kind: api.MsgState, From: 2, To: 5, State: s} }

func sealed(n, epoch, a, life, does int, dirty, all []api.Held) api.Msg {
	return api.Msg{Kind: api.MsgSealed, From: n, To: 5, Epoch: epoch, A: a, B: life, N: does, Items: dirty, More: all}
}

func installed(n, epoch int) api.Msg {
	return api.Msg{Kind: api.MsgInstalled, From: n, To: 5, Epoch: epoch}
}

// says wants messages of a kind to nodes, and tells them.
func says(t *testing.T, x *take.Take, kind int, to ...int) []api.Msg {
	t.Helper()
	l := x.Say()
	var got []int
	for _, m := range l {
		if m.Kind != kind || m.From != 5 || !msg.May(m) {
			t.Errorf("%+v", m)
		}
		got = append(got, m.To)
	}
	if !slices.Equal(got, to) {
		t.Error("to", got, "not", to)
	}
	return l
}

func phase(t *testing.T, x *take.Take, want int) {
	t.Helper()
	if x.Phase() != want {
		t.Fatal(x.Phase(), "not", want)
	}
}

// at is a take whose epoch is 8, that is to seal.
func at(t *testing.T, active api.Conf) *take.Take {
	t.Helper()
	x := take.New(5, 3, []int{3, 1}, []int{1, 0})
	if !x.Hear(state(api.State{Epoch: 8, Active: active, Next: wish(8), Seen: [2]int{3, 9}})) {
		t.Fatal("decided")
	}
	return x
}

func TestNew(t *testing.T) {
	for _, c := range []struct {
		gate, count    int
		mirrors, chain []int
	}{{4, 1, nil, []int{0}}, {7, 1, nil, []int{0}}, {5, 0, nil, []int{0}}, {5, api.MostCount + 1, nil, []int{0}}, {5, 1, nil, nil}, {5, 1, []int{1, 1}, []int{0}}, {0, 0, nil, nil}} {
		if take.New(c.gate, c.count, c.mirrors, c.chain) != nil {
			t.Error(c)
		}
	}
	mirrors := []int{3, 1}
	x := take.New(5, 3, mirrors, []int{1, 0})
	mirrors[0] = 0
	x.Conf().Chain[0] = 4
	if !conf.Same(x.Conf(), wish(0)) {
		t.Error("own lists", x.Conf())
	}
}

func TestWish(t *testing.T) {
	x := take.New(5, 3, []int{3, 1}, []int{1, 0})
	phase(t, x, api.TakeWish)
	for _, m := range says(t, x, api.MsgWish, 0, 1, 2) {
		if m.Cmd.Kind != api.CmdPrepare || !conf.Same(m.Cmd.Conf, wish(0)) {
			t.Error(m)
		}
	}
	other := wish(8)
	other.Chain = []int{0, 1}
	toOther := state(api.State{Epoch: 8, Next: wish(8), Seen: [2]int{3, 0}})
	toOther.To = 6
	for i, m := range []api.Msg{
		state(api.State{}), state(api.State{Epoch: 7, Next: other, Seen: [2]int{2, 9}}), toOther, sealed(1, 0, 0, 0, 0, nil, nil), installed(1, 0), {Kind: api.MsgWish, To: 5},
	} {
		if x.Hear(m) || x.Phase() != api.TakeWish {
			t.Error(i)
		}
	}
	lost := take.New(5, 3, []int{3, 1}, []int{1, 0})
	if !lost.Hear(state(api.State{Epoch: 9, Next: other, Seen: [2]int{3, 9}})) || lost.Say() != nil {
		t.Error("another one is newer")
	}
	phase(t, lost, api.TakeLost)
	lost = take.New(5, 3, []int{3, 1}, []int{1, 0})
	if !lost.Hear(state(api.State{Seen: [2]int{4, 0}})) || lost.Phase() != api.TakeLost || lost.Hear(state(api.State{Epoch: 8, Next: wish(8)})) {
		t.Error("one's own newer wish")
	}
	if x = at(t, api.Conf{}); !conf.Same(x.Conf(), wish(8)) {
		t.Error(x.Conf())
	}
	phase(t, x, api.TakeSeal)
}

func TestSeal(t *testing.T) {
	active := api.Conf{Epoch: 5, By: 6, Count: 1, Mirrors: []int{4}, Chain: []int{2}}
	x := at(t, active)
	says(t, x, api.MsgSeal, 0, 1, 2, 3, 4)
	if x.Say()[0].Epoch != 8 {
		t.Error("the epoch")
	}
	dirty := []api.Held{held(1, 9)}
	for _, m := range []api.Msg{sealed(1, 7, 0, 0, 0, nil, nil), sealed(1, 9, 0, 0, 0, nil, nil), sealed(5, 8, 0, 0, 0, nil, nil), installed(1, 8)} {
		if x.Hear(m) {
			t.Error(m)
		}
	}
	for i, m := range []api.Msg{
		sealed(3, 8, 0, 0, 0, nil, nil), sealed(1, 8, 0, 6, 0, nil, nil), sealed(4, 8, 5, 0, api.IsMirror, nil, nil), sealed(4, 8, 5, 0, api.IsMirror, dirty, nil),
		sealed(0, 8, 0, 2, 0, nil, nil),
	} {
		if x.Hear(m) {
			t.Error(i)
		}
	}
	says(t, x, api.MsgSeal, 2)
	if !x.Hear(sealed(2, 8, 5, 0, api.IsChain, nil, []api.Held{held(1, 3), held(2, 4)})) {
		t.Error("enough")
	}
	dirty[0].Block = 60
	phase(t, x, api.TakeInstall)
	l := says(t, x, api.MsgInstall, 0, 1)
	for i, life := range []int{2, 6} {
		if l[i].B != life || !conf.Same(l[i].Conf, wish(8)) || !slices.Equal(l[i].Items, []api.Held{held(1, 9), held(2, 4)}) {
			t.Error("with each one's last answer", l[i])
		}
	}
	l[0].Items[0].Block = 50
	if x.Say()[0].Items[0].Block != 1 {
		t.Error("shared")
	}
}

func TestInstall(t *testing.T) {
	x := at(t, api.Conf{})
	for n := range 4 {
		if x.Hear(sealed(n, 8, 0, 0, 0, nil, nil)) != (n == 3) {
			t.Error(n)
		}
	}
	for i, m := range []api.Msg{installed(0, 7), installed(3, 8), installed(2, 8), installed(-1, 8), sealed(4, 8, 0, 0, 0, nil, nil), installed(1, 8), installed(1, 8)} {
		if x.Hear(m) {
			t.Error(i)
		}
	}
	says(t, x, api.MsgInstall, 0)
	if !x.Hear(installed(0, 8)) || x.Phase() != api.TakeInstall {
		t.Error("the mirrors' turn")
	}
	if l := says(t, x, api.MsgInstall, 3); !conf.Same(l[0].Conf, wish(8)) {
		t.Error(l)
	}
	if x.Hear(installed(0, 8)) || !x.Hear(installed(3, 8)) {
		t.Error("all are installed")
	}
	phase(t, x, api.TakeActive)
	for _, m := range says(t, x, api.MsgWish, 0, 1, 2) {
		if m.Cmd.Kind != api.CmdActivate || !conf.Same(m.Cmd.Conf, api.Conf{Epoch: 8}) {
			t.Error(m)
		}
	}
	if x.Hear(state(api.State{Epoch: 8, Next: wish(8)})) || !x.Hear(state(api.State{Epoch: 9, Active: wish(8)})) {
		t.Error("it works")
	}
	phase(t, x, api.TakeDone)
	if x.Say() != nil || x.Hear(state(api.State{Epoch: 99})) || !conf.Same(x.Conf(), wish(8)) {
		t.Error("done")
	}
}

func TestAllInTheChain(t *testing.T) {
	x := take.New(5, 1, []int{0}, []int{0})
	x.Hear(state(api.State{Epoch: 1, Next: api.Conf{Epoch: 1, By: 5, Count: 1, Mirrors: []int{0}, Chain: []int{0}}}))
	x.Hear(sealed(0, 1, 0, 0, 0, nil, nil))
	if !x.Hear(installed(0, 1)) || x.Phase() != api.TakeActive {
		t.Error("no mirror behind the chain")
	}
}

func TestLost(t *testing.T) {
	newer := state(api.State{Epoch: 9})
	seal, install, active := at(t, api.Conf{}), at(t, api.Conf{}), at(t, api.Conf{})
	for _, x := range []*take.Take{install, active} {
		for n := range 4 {
			x.Hear(sealed(n, 8, 0, 0, 0, nil, nil))
		}
	}
	for _, n := range []int{0, 1, 3} {
		active.Hear(installed(n, 8))
	}
	for i, x := range []*take.Take{seal, install, active} {
		phase(t, x, i+1)
		if x.Hear(state(api.State{Epoch: 8, Next: wish(8)})) || !x.Hear(newer) || x.Say() != nil {
			t.Error(i)
		}
		phase(t, x, api.TakeLost)
	}
}

func TestNone(t *testing.T) {
	var x *take.Take
	if x.Phase() != api.TakeLost || !conf.None(x.Conf()) || x.Say() != nil || x.Hear(state(api.State{})) {
		t.Error("of none")
	}
	if zero := (&take.Take{}); zero.Hear(api.Msg{Kind: api.MsgState}) {
		t.Error("one that was not made")
	}
}
