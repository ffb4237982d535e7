package node_test

import (
	"math"
	"slices"
	"strings"
	"testing"

	"tarn/api"
	"tarn/decide"
	"tarn/node"
)

func of(ver uint64) api.Item { return api.Item{Ver: ver, Data: strings.Repeat("a", 32)} }

func wish(count int) api.Cmd {
	return api.Cmd{Kind: api.CmdPrepare, Conf: api.Conf{By: 5, Count: count, Mirrors: []int{3}, Chain: []int{0}}}
}

func ticks(n *node.Node, many int) {
	for range many {
		n.Tick()
	}
}

// leads is the voter 0, that leads, with what it said told.
func leads() *node.Node {
	n := node.New(0, 4)
	ticks(n, 4)
	n.Handle(api.Msg{Kind: api.MsgVoted, From: 1, To: 0, Term: 1, Yes: true})
	n.Sync()
	return n
}

func TestNew(t *testing.T) {
	if node.New(-1, 4) != nil || node.New(5, 4) != nil {
		t.Error("no such node")
	}
	for id := range api.Nodes {
		n := node.New(id, math.MinInt)
		if !n.Up() || (n.Raft() != nil) != (id < api.Voters) || n.Member() == nil || n.Disk().Sectors() != api.NodeSectors || n.Start() || n.Wipe() || n.Life() != 0 || n.Held() != 0 {
			t.Error(id)
		}
	}
}

func TestHoldsBack(t *testing.T) {
	n := node.New(0, 4)
	ticks(n, 4)
	if n.Held() != 2 {
		t.Error(n.Held())
	}
	out := n.Sync()
	if len(out) != 2 || out[0].Kind != api.MsgVote || n.Held() != 0 || n.Sync() != nil {
		t.Error(out)
	}
	n.Handle(api.Msg{Kind: api.MsgVoted, From: 1, To: 2, Term: 1, Yes: true})
	if n.Held() != 0 {
		t.Error("not for it")
	}
	n.Handle(api.Msg{Kind: api.MsgVoted, From: 1, To: 0, Term: 1, Yes: true})
	if n.Raft().Role() != api.RoleLeads || n.Held() != 2 {
		t.Error("it leads")
	}
	if !n.Crash(0, 0) || n.Up() || n.Held() != 0 || n.Raft() != nil || n.Member() != nil || n.Crash(0, 0) || n.Sync() != nil {
		t.Error("down")
	}
	n.Tick()
	n.Handle(api.Msg{Kind: api.MsgSeal, From: 5, To: 0, Epoch: 1})
	if !n.Start() || n.Raft().Term() != 1 || n.Raft().Log().Len() != 0 || n.Held() != 0 {
		t.Error("as its disk keeps it")
	}
}

func TestWish(t *testing.T) {
	n := leads()
	n.Handle(api.Msg{Kind: api.MsgWish, From: 5, To: 0, Cmd: wish(1)})
	out := n.Sync()
	if len(out) != 3 || out[0].Kind != api.MsgAppend || out[2].Kind != api.MsgState || out[2].To != 5 || out[2].From != 0 || out[2].State.Epoch != 0 {
		t.Error(out)
	}
	n.Handle(api.Msg{Kind: api.MsgAppended, From: 1, To: 0, Term: 1, Yes: true, A: 2})
	n.Handle(api.Msg{Kind: api.MsgWish, From: 6, To: 0})
	if out = n.Sync(); out[len(out)-1].State.Epoch != 1 || out[len(out)-1].To != 6 {
		t.Error("what is decided", out)
	}
	n.Handle(api.Msg{Kind: api.MsgWish, From: 1, To: 0, Cmd: wish(2)})
	follower := node.New(1, 4)
	follower.Handle(api.Msg{Kind: api.MsgWish, From: 5, To: 1, Cmd: wish(1)})
	other := node.New(3, 4)
	other.Handle(api.Msg{Kind: api.MsgWish, From: 5, To: 3, Cmd: wish(1)})
	other.Handle(api.Msg{Kind: api.MsgVote, From: 0, To: 3, Term: 1})
	if n.Held() != 0 || follower.Held() != 1 || other.Held() != 0 {
		t.Error("of a gateway, of a voter", n.Held(), follower.Held(), other.Held())
	}
}

func TestCrash(t *testing.T) {
	for step, fates := range map[int]uint64{-1: 0, 0: math.MaxUint64, 1: 0, 2: 0, 3: 0x5555555555555555, 9: 0x5555555555555555} {
		n := node.New(0, 4)
		n.Handle(api.Msg{Kind: api.MsgSeal, From: 5, To: 0, Epoch: 4})
		ticks(n, 4)
		n.Crash(step, fates)
		if !n.Start() {
			t.Fatal(step)
		}
		term, promised := 0, 0
		if step >= 3 {
			term, promised = 1, 4
		}
		if n.Raft().Term() != term || n.Member().Promised() != promised {
			t.Error(step, n.Raft().Term(), n.Member().Promised())
		}
	}
}

func TestWipe(t *testing.T) {
	n := node.New(4, 4)
	n.Handle(api.Msg{Kind: api.MsgSeal, From: 5, To: 4, Epoch: 4})
	if out := n.Sync(); len(out) != 1 || out[0].B != 0 {
		t.Error(out)
	}
	n.Crash(0, 0)
	if !n.Wipe() || !n.Wipe() || n.Life() != 2 || !n.Start() || n.Member().Promised() != 0 {
		t.Error("an empty disk")
	}
	n.Handle(api.Msg{Kind: api.MsgSeal, From: 5, To: 4, Epoch: 4})
	if out := n.Sync(); len(out) != 1 || out[0].B != 2 {
		t.Error("how often it was lost", out)
	}
	v := node.New(2, 4)
	v.Crash(0, 0)
	if v.Wipe() || v.Life() != 0 {
		t.Error("a voter")
	}
}

func TestStartRefuses(t *testing.T) {
	n := node.New(1, 4)
	n.Crash(0, 0)
	n.Disk().Write(0, strings.Repeat("\x00\x00\x00\x00\x00\x00\x00\x02\x09\x09\x09\x09\x09\x09\x09\x09\x09\x09\x09\x09\x09\x09\x09\x09\x09\x09\x09\x09\x09\x09\x09\x09", 2))
	_, ok := n.Holds()
	if n.Start() || n.Up() || ok || n.Decides() != nil {
		t.Error("what is kept is none")
	}
}

func TestHoldsDecides(t *testing.T) {
	n := leads()
	n.Handle(api.Msg{Kind: api.MsgInstall, From: 5, To: 0, Conf: api.Conf{Epoch: 2, By: 5, Count: 1, Mirrors: []int{0}, Chain: []int{0}}, Items: []api.Held{{Block: 3, Item: of(7)}}})
	n.Handle(api.Msg{Kind: api.MsgPut, From: 5, To: 0, Epoch: 2, Block: 1, Item: of(9)})
	n.Handle(api.Msg{Kind: api.MsgWish, From: 5, To: 0, Cmd: wish(1)})
	if h, ok := n.Holds(); !ok || h.Epoch != 0 || h.All != nil || len(n.Decides()) != 2 {
		t.Error("only what its disk keeps", h)
	}
	n.Sync()
	for range 2 {
		h, ok := n.Holds()
		if !ok || h.Epoch != 2 || h.Does != 3 || !slices.Equal(h.Dirty, []api.Held{{Block: 1, Item: of(9)}}) || !slices.Equal(h.All, []api.Held{{Block: 3, Item: of(7)}}) {
			t.Error(h)
		}
		l := n.Decides()
		if len(l) != 3 || !decide.Same(l[0], api.State{}) || !decide.Same(l[1], api.State{}) || l[2].Epoch != 1 {
			t.Error("decided or not", l)
		}
		n.Crash(0, 0)
	}
	if node.New(3, 4).Decides() != nil || len(node.New(1, 4).Decides()) != 1 {
		t.Error("no voter, a new one")
	}
}

// A voter that has no room says nothing, and what it keeps stays whole.
func TestNoRoom(t *testing.T) {
	n := node.New(0, 4)
	var l []api.Held
	for b := range api.MostBlocks {
		l = append(l, api.Held{Block: b, Item: of(1 << 60)})
	}
	c := api.Conf{Epoch: 2, By: 5, Count: 1, Mirrors: []int{0, 1, 2}, Chain: []int{0, 1, 2}}
	n.Handle(api.Msg{Kind: api.MsgInstall, From: 5, To: 0, Conf: c, Items: l})
	for b := range api.MostBlocks {
		n.Handle(api.Msg{Kind: api.MsgPut, From: 5, To: 0, Epoch: 2, Seq: 1, Block: b, Item: of(1<<60 + 1)})
	}
	n.Sync()
	term := 0
	for i := range 40 {
		var entries []api.Entry
		for k := range api.MostBatch {
			x := wish(1<<19 + i*api.MostBatch + k)
			x.Conf.Mirrors, x.Conf.Chain = []int{0, 1, 2}, []int{2, 3, 4}
			entries = append(entries, api.Entry{Term: 1 << 19, Cmd: x})
		}
		at, ahead := i*api.MostBatch, 0
		if i > 0 {
			ahead = 1 << 19
		}
		term = 1<<19 + i
		n.Handle(api.Msg{Kind: api.MsgAppend, From: 1, To: 0, Term: term, A: at, B: ahead, Entries: entries})
		if n.Sync() == nil {
			break
		}
	}
	if n.Held() == 0 {
		t.Fatal("there was room")
	}
	before := len(n.Decides())
	n.Crash(9, math.MaxUint64/3)
	if !n.Start() || n.Raft().Term() != term-1 || len(n.Decides()) != before || len(n.Member().Mirror().Dirty()) != api.MostBlocks {
		t.Error("it is whole")
	}
}

func TestNone(t *testing.T) {
	var n *node.Node
	n.Tick()
	n.Handle(api.Msg{})
	h, ok := n.Holds()
	if n.Start() || n.Up() || n.Raft() != nil || n.Member() != nil || n.Disk() != nil || n.Sync() != nil || n.Held() != 0 || n.Crash(3, 3) || n.Wipe() || n.Life() != 0 ||
		ok || h.Epoch != 0 || n.Decides() != nil {
		t.Error("of none")
	}
	zero := &node.Node{}
	if zero.Start() || zero.Wipe() {
		t.Error("one that was not made")
	}
}
