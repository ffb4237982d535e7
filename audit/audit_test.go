package audit_test

import (
	"strings"
	"testing"

	"tarn/api"
	"tarn/audit"
	"tarn/calm"
	"tarn/conf"
	"tarn/journal"
	"tarn/num"
	"tarn/world"
)

func of(ver uint64) api.Item { return api.Item{Ver: ver, Data: strings.Repeat("a", 32)} }

func fresh() *world.World {
	return world.New(api.Setup{Volume: api.Volume{Blocks: 8, Dirty: 4, Writes: 100}, Room: 4})
}

// hear lets a node hear a message, as no script could send it.
func hear(w *world.World, m api.Msg) { w.Node(m.To).Handle(m) }

func leads(w *world.World, who int) {
	for w.Node(who).Raft().Role() != api.RoleAsks {
		w.Node(who).Tick()
	}
	hear(w, api.Msg{Kind: api.MsgVoted, From: (who + 1) % 3, To: who, Term: w.Node(who).Raft().Term(), Yes: true})
}

func wish(count int) api.Entry {
	return api.Entry{Term: 1, Cmd: api.Cmd{Kind: api.CmdPrepare, Conf: api.Conf{By: 5, Count: count, Chain: []int{0}}}}
}

func TestNewWorld(t *testing.T) {
	w := fresh()
	if audit.All(w) != 0 || audit.Decided(w) != 0 || audit.All(nil) != 0 || audit.Decided(nil) != 0 || audit.Chain(nil, api.Conf{}) != 0 || audit.Mirrors(w, 1) != 0 {
		t.Error("nothing is wrong")
	}
	if !calm.Serve(w, 5, 0, []int{3, 4}, []int{0, 1}) || audit.All(w) != 0 || audit.Decided(w) != 1 {
		t.Error("nor when a gateway serves")
	}
}

func TestLeads(t *testing.T) {
	w := fresh()
	leads(w, 0)
	if audit.Leads(w) != 0 {
		t.Error("one leads")
	}
	leads(w, 1)
	if audit.Leads(w) != api.AuditLeads || audit.All(w) != api.AuditLeads {
		t.Error("two lead in one term")
	}
	w.Do(api.Act{What: api.ActCrash, Who: 0})
	if audit.Leads(w) != 0 {
		t.Error("one is down")
	}
	w = fresh()
	leads(w, 0)
	for range 2 {
		for range 7 {
			w.Node(1).Tick()
		}
	}
	leads(w, 1)
	if w.Node(1).Raft().Term() == 1 || audit.Leads(w) != 0 {
		t.Error("in two terms")
	}
}

// decides lets a voter know entries as decided.
func decides(w *world.World, who, done int, l ...api.Entry) {
	hear(w, api.Msg{Kind: api.MsgAppend, From: (who + 1) % 3, To: who, Term: 1, N: done, Entries: l})
}

func TestDecides(t *testing.T) {
	w := fresh()
	decides(w, 0, 2, wish(1), wish(2), wish(3))
	decides(w, 2, 1, wish(1), wish(9))
	if audit.Decides(w) != 0 || audit.Decided(w) != 2 {
		t.Error("one's is the other's beginning", audit.Decided(w))
	}
	decides(w, 1, 2, wish(1), wish(9))
	if audit.Decides(w) != api.AuditDecides || audit.All(w) != api.AuditDecides {
		t.Error("unlike")
	}
	w.Do(api.Act{What: api.ActCrash, Who: 0})
	if audit.Decides(w) != 0 || audit.Decided(w) != 2 {
		t.Error("one is down")
	}
	hear(w, api.Msg{Kind: api.MsgSnap, From: 0, To: 2, Term: 1, A: 2, B: 1, State: api.State{Epoch: 7}})
	if audit.Decides(w) != 0 || audit.Decided(w) != 7 {
		t.Error("what is not kept any more")
	}
}

func TestEpochs(t *testing.T) {
	w := fresh()
	c := api.Conf{Epoch: 3, By: 5, Count: 1, Chain: []int{4}}
	w.Do(api.Act{What: api.ActCrash, Who: 4})
	j, _ := journal.Open(w.Node(4).Disk())
	j.Put("c", conf.Put(c))
	j.Put("p", num.Put(2))
	j.Sync()
	if audit.Epochs(w) != 0 {
		t.Error("it is down")
	}
	w.Do(api.Act{What: api.ActStart, Who: 4})
	if audit.Epochs(w) != api.AuditEpochs || audit.All(w) != api.AuditEpochs {
		t.Error("newer than the promise")
	}
	hear(w, api.Msg{Kind: api.MsgSeal, From: 5, To: 4, Epoch: 3})
	if audit.Epochs(w) != 0 {
		t.Error("promised")
	}
}

func TestChain(t *testing.T) {
	w := fresh()
	calm.Serve(w, 5, 0, nil, []int{3, 1, 4})
	c := w.Gate(5).Conf()
	w.Node(1).Member().Chain().Store(2, of(5))
	if audit.Chain(w, c) != api.AuditChain || audit.All(w) != api.AuditChain || audit.Chain(w, api.Conf{Epoch: 9, Chain: []int{3, 1}}) != 0 {
		t.Error("the first has none")
	}
	w.Node(3).Member().Chain().Store(2, of(4))
	if audit.Chain(w, c) != api.AuditChain {
		t.Error("the first has an elder item")
	}
	w.Node(3).Member().Chain().Store(2, of(5))
	if audit.Chain(w, c) != 0 {
		t.Error("the last may be behind")
	}
	w.Node(4).Member().Chain().Store(7, of(1))
	w.Do(api.Act{What: api.ActCrash, Who: 1})
	if audit.Chain(w, c) != 0 {
		t.Error("one is down")
	}
}

func TestMirrors(t *testing.T) {
	w := fresh()
	calm.Serve(w, 6, 0, []int{3, 2}, []int{0})
	w.Do(api.Act{What: api.ActAsk, Who: 6, Ask: api.Ask{What: api.AskWrite, Data: strings.Repeat("a", 32)}})
	calm.Until(w, 6, 100)
	if len(w.Gate(6).Dirty()) != 1 || audit.Mirrors(w, 6) != 0 || audit.Mirrors(w, 5) != 0 {
		t.Error("all have it")
	}
	w.Do(api.Act{What: api.ActCrash, Who: 2})
	w.Do(api.Act{What: api.ActStart, Who: 2})
	if audit.Mirrors(w, 6) != 0 {
		t.Error("what was said is kept")
	}
	w.Do(api.Act{What: api.ActCrash, Who: 2})
	j, _ := journal.Open(w.Node(2).Disk())
	j.Del("d" + num.Word(0))
	j.Sync()
	w.Do(api.Act{What: api.ActStart, Who: 2})
	if audit.Mirrors(w, 6) != 0 {
		t.Error("it met it")
	}
	w.Do(api.Act{What: api.ActCrash, Who: 2})
	j, _ = journal.Open(w.Node(2).Disk())
	j.Del("m" + num.Word(0))
	j.Sync()
	if audit.Mirrors(w, 6) != 0 {
		t.Error("it is down")
	}
	w.Do(api.Act{What: api.ActStart, Who: 2})
	if audit.Mirrors(w, 6) != api.AuditMirrors || audit.All(w) != api.AuditMirrors {
		t.Error("it met less")
	}
}
