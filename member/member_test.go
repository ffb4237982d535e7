package member_test

import (
	"slices"
	"strings"
	"testing"

	"tarn/api"
	"tarn/conf"
	"tarn/disk"
	"tarn/item"
	"tarn/journal"
	"tarn/member"
	"tarn/msg"
	"tarn/num"
)

func of(ver uint64) api.Item { return api.Item{Ver: ver, Data: strings.Repeat("a", 32)} }

func held(block int, ver uint64) api.Held { return api.Held{Block: block, Item: of(ver)} }

func fresh() (*disk.Disk, *journal.Journal) {
	d, _ := disk.New(200)
	j, _ := journal.Open(d)
	return d, j
}

// works is the configuration of the tests: 2 is a mirror, 3 both, 1 the chain's last one.
func works(epoch int) api.Conf {
	return api.Conf{Epoch: epoch, By: 5, Count: 1, Mirrors: []int{2, 3}, Chain: []int{3, 1}}
}

func install(epoch int, l ...api.Held) api.Msg {
	return api.Msg{Kind: api.MsgInstall, From: 5, Conf: works(epoch), Items: l}
}

// one hands a message in, and wants one answer.
func one(t *testing.T, m *member.Member, x, want api.Msg) {
	t.Helper()
	l := m.Handle(x)
	if len(l) != 1 || !msg.Same(l[0], want) {
		t.Errorf("%+v", l)
	}
}

func nothing(t *testing.T, m *member.Member, x api.Msg) {
	t.Helper()
	promised, c, dirty, all := m.Promised(), m.Conf(), m.Mirror().Dirty(), m.Chain().All()
	if l := m.Handle(x); len(l) != 0 || m.Promised() != promised || !conf.Same(m.Conf(), c) || !slices.Equal(m.Mirror().Dirty(), dirty) || !slices.Equal(m.Chain().All(), all) {
		t.Errorf("%+v does something: %+v", x, l)
	}
}

func TestSeal(t *testing.T) {
	_, j := fresh()
	m := member.Load(j, 3, 4, 7)
	one(t, m, api.Msg{Kind: api.MsgSeal, From: 6, Epoch: 2}, api.Msg{Kind: api.MsgSealed, From: 3, To: 6, Epoch: 2, B: 7})
	if m.Promised() != 2 || m.Does() != 0 {
		t.Error("promised")
	}
	nothing(t, m, api.Msg{Kind: api.MsgSeal, From: 6, Epoch: 1})
	nothing(t, m, api.Msg{Kind: api.MsgSeal, From: 4, Epoch: 3})
	nothing(t, m, api.Msg{Kind: api.MsgSeal, From: 6, Epoch: 0})
	nothing(t, m, api.Msg{Kind: api.MsgSeal, From: 6, Epoch: api.MostEpoch + 1})
	j.Sync()
	one(t, m, api.Msg{Kind: api.MsgSeal, From: 5, Epoch: 2}, api.Msg{Kind: api.MsgSealed, From: 3, To: 5, Epoch: 2, B: 7})
	if j.Later() {
		t.Error("a promise that is kept is not laid again")
	}
	x := install(3, held(4, 9))
	x.B = 7
	m.Handle(x)
	m.Handle(api.Msg{Kind: api.MsgPut, From: 5, Epoch: 3, Seq: 1, Block: 8, Item: of(20)})
	one(t, m, api.Msg{Kind: api.MsgSeal, From: 6, Epoch: 5}, api.Msg{
		Kind: api.MsgSealed, From: 3, To: 6, Epoch: 5, A: 3, B: 7, N: 3, Items: []api.Held{held(8, 20)}, More: []api.Held{held(4, 9)},
	})
}

func TestInstall(t *testing.T) {
	_, j := fresh()
	m := member.Load(j, 1, 4, 0)
	done := func(epoch int) api.Msg { return api.Msg{Kind: api.MsgInstalled, From: 1, To: 5, Epoch: epoch} }
	m.Handle(api.Msg{Kind: api.MsgSeal, From: 5, Epoch: 2})
	for _, f := range []func(*api.Msg){
		func(x *api.Msg) { x.From = 6 }, func(x *api.Msg) { x.B = 1 }, func(x *api.Msg) { x.Conf.Epoch = 1 },
		func(x *api.Msg) { x.Conf.Chain = []int{0} }, func(x *api.Msg) { x.Conf.Epoch = 0 }, func(x *api.Msg) { x.Conf = api.Conf{} },
	} {
		x := install(3, held(4, 9))
		f(&x)
		nothing(t, m, x)
	}
	one(t, m, install(3, held(4, 9)), done(3))
	if m.Promised() != 3 || !conf.Same(m.Conf(), works(3)) || m.Does() != api.IsChain || m.Chain().Load(4) != of(9) {
		t.Error("installed")
	}
	m.Conf().Chain[0] = 0
	if m.Conf().Chain[0] != 3 {
		t.Error("shared")
	}
	m.Handle(api.Msg{Kind: api.MsgStore, From: 3, Epoch: 3, Seq: 1, Block: 5, Item: of(11)})
	one(t, m, install(3, held(4, 10)), done(3))
	if m.Chain().Load(4) != of(9) || m.Chain().Load(5) != of(11) {
		t.Error("once an epoch")
	}
	nothing(t, m, install(2))
	m.Handle(api.Msg{Kind: api.MsgSeal, From: 6, Epoch: 5})
	nothing(t, m, install(4))
	nothing(t, m, install(3))
	one(t, m, install(5, held(6, 12)), done(5))
	if !slices.Equal(m.Chain().All(), []api.Held{held(6, 12)}) {
		t.Error("what was there is forgotten", m.Chain().All())
	}
}

func TestInstallMirror(t *testing.T) {
	d, j := fresh()
	m := member.Load(j, 2, 4, 0)
	m.Handle(install(1, held(4, 9)))
	if m.Does() != api.IsMirror || m.Chain().All() != nil {
		t.Error("no blocks at one that is in no chain")
	}
	m.Handle(api.Msg{Kind: api.MsgPut, From: 5, Epoch: 1, Seq: 1, Block: 1, Item: of(20)})
	m.Handle(install(2))
	if m.Mirror().Dirty() != nil || m.Mirror().Met(1) != 0 {
		t.Error("a mirror without anything")
	}
	j.Sync()
	j, _ = journal.Open(d)
	if m := member.Load(j, 2, 4, 0); m.Mirror().Met(1) != 0 || len(j.All("")) != 2 {
		t.Error("kept so", j.All(""))
	}
}

func TestServesMirror(t *testing.T) {
	_, j := fresh()
	m := member.Load(j, 2, 4, 0)
	put := api.Msg{Kind: api.MsgPut, From: 5, Epoch: 2, Seq: 7, Block: 3, Item: of(20)}
	nothing(t, m, put)
	m.Handle(install(2))
	putDone := api.Msg{Kind: api.MsgPutDone, From: 2, To: 5, Epoch: 2, Seq: 7}
	one(t, m, put, putDone)
	one(t, m, put, putDone)
	check := func(seq, a int, x api.Item) {
		t.Helper()
		one(t, m, api.Msg{Kind: api.MsgCheck, From: 5, Epoch: 2, Seq: seq, Block: 3}, api.Msg{Kind: api.MsgValue, From: 2, To: 5, Epoch: 2, Seq: seq, A: a, Item: x})
	}
	check(8, api.ValueDirty, of(20))
	cleaned := api.Msg{Kind: api.MsgCleaned, From: 2, To: 5, Epoch: 2, Seq: 9}
	one(t, m, api.Msg{Kind: api.MsgClean, From: 5, Epoch: 2, Seq: 9, Block: 3, Item: api.Item{Ver: 19}}, cleaned)
	check(10, api.ValueDirty, of(20))
	one(t, m, api.Msg{Kind: api.MsgClean, From: 5, Epoch: 2, Seq: 9, Block: 3, Item: api.Item{Ver: 20}}, cleaned)
	check(11, api.ValueClean, of(20))
	if l := m.Handle(api.Msg{Kind: api.MsgWarm, From: 5, Epoch: 2, Block: 4, Item: of(3)}); l != nil || m.Mirror().Met(4) != 3 {
		t.Error("warm", l)
	}
	for _, f := range []func(*api.Msg){
		func(x *api.Msg) { x.From = 6 }, func(x *api.Msg) { x.Epoch = 1 }, func(x *api.Msg) { x.Epoch = 3 }, func(x *api.Msg) { x.Block = 64 },
		func(x *api.Msg) { x.Item.Data = "x" }, func(x *api.Msg) { x.Kind = api.MsgPutDone }, func(x *api.Msg) { x.Kind = api.MsgStore }, func(x *api.Msg) { x.Kind = api.MsgLoad },
	} {
		x := put
		x.Item = of(30)
		f(&x)
		nothing(t, m, x)
	}
	m.Handle(api.Msg{Kind: api.MsgSeal, From: 6, Epoch: 3})
	put.Item = of(30)
	nothing(t, m, put)
}

func TestServesChain(t *testing.T) {
	_, j := fresh()
	m := member.Load(j, 3, 4, 0)
	m.Handle(install(2))
	store := api.Msg{Kind: api.MsgStore, From: 5, Epoch: 2, Seq: 7, Block: 3, Item: of(20)}
	handed := api.Msg{Kind: api.MsgStore, From: 3, To: 1, Epoch: 2, Seq: 7, Block: 3, Item: of(20)}
	one(t, m, store, handed)
	one(t, m, store, handed)
	elder := store
	elder.Item = of(10)
	handed.Item = of(10)
	one(t, m, elder, handed)
	if m.Chain().Load(3) != of(20) {
		t.Error("the newest stays")
	}
	load := api.Msg{Kind: api.MsgLoad, From: 4, Epoch: 2, Seq: 8, Block: 3}
	one(t, m, load, api.Msg{Kind: api.MsgLoad, From: 3, To: 1, Epoch: 2, Seq: 8, Block: 3})
	_, j = fresh()
	m = member.Load(j, 1, 4, 0)
	m.Handle(install(2))
	one(t, m, store, api.Msg{Kind: api.MsgStored, From: 1, To: 5, Epoch: 2, Seq: 7})
	one(t, m, load, api.Msg{Kind: api.MsgLoaded, From: 1, To: 5, Epoch: 2, Seq: 8, Item: of(20)})
	load.Block = 4
	one(t, m, load, api.Msg{Kind: api.MsgLoaded, From: 1, To: 5, Epoch: 2, Seq: 8})
	for _, f := range []func(*api.Msg){func(x *api.Msg) { x.Epoch = 1 }, func(x *api.Msg) { x.Epoch = 3 }, func(x *api.Msg) { x.Kind = api.MsgPut }, func(x *api.Msg) { x.Kind = api.MsgCheck }} {
		x := store
		x.Item = of(40)
		f(&x)
		nothing(t, m, x)
	}
	m.Handle(api.Msg{Kind: api.MsgSeal, From: 6, Epoch: 3})
	nothing(t, m, store)
	nothing(t, m, load)
}

func TestKept(t *testing.T) {
	d, j := fresh()
	m := member.Load(j, 3, 4, 0)
	m.Handle(install(2, held(4, 9)))
	m.Handle(api.Msg{Kind: api.MsgPut, From: 5, Epoch: 2, Block: 1, Item: of(20)})
	m.Handle(api.Msg{Kind: api.MsgPut, From: 5, Epoch: 2, Block: 2, Item: of(21)})
	m.Handle(api.Msg{Kind: api.MsgClean, From: 5, Epoch: 2, Block: 2, Item: of(21)})
	m.Handle(api.Msg{Kind: api.MsgWarm, From: 5, Epoch: 2, Block: 6, Item: of(3)})
	m.Handle(api.Msg{Kind: api.MsgStore, From: 5, Epoch: 2, Block: 2, Item: of(21)})
	m.Handle(api.Msg{Kind: api.MsgSeal, From: 6, Epoch: 4})
	want := []api.Pair{
		{Key: "b" + num.Word(2), Value: item.Put(of(21))}, {Key: "b" + num.Word(4), Value: item.Put(of(9))}, {Key: "c", Value: conf.Put(works(2))},
		{Key: "d" + num.Word(1), Value: item.Put(of(20))}, {Key: "m" + num.Word(1), Value: item.Put(api.Item{Ver: 20})},
		{Key: "m" + num.Word(2), Value: item.Put(api.Item{Ver: 21})}, {Key: "p", Value: num.Put(4)},
	}
	if l := j.All(""); !slices.Equal(l, want) {
		t.Errorf("%q", l)
	}
	j.Sync()
	j, _ = journal.Open(d)
	got := member.Load(j, 3, 4, 0)
	if got.Promised() != 4 || !conf.Same(got.Conf(), works(2)) || got.Does() != 3 || !slices.Equal(got.Mirror().Dirty(), m.Mirror().Dirty()) ||
		!slices.Equal(got.Chain().All(), m.Chain().All()) || got.Mirror().Met(2) != 21 || got.Mirror().Met(6) != 0 {
		t.Error("as it was kept")
	}
}

func TestLoadRefuses(t *testing.T) {
	_, empty := fresh()
	if member.Load(nil, 0, 4, 0) != nil || member.Load(empty, -1, 4, 0) != nil || member.Load(empty, 5, 4, 0) != nil || member.Load(empty, 0, 4, -1) != nil {
		t.Error("no journal, no such node, no such life")
	}
	if m := member.Load(empty, 0, -4, 9); m == nil || m.Promised() != 0 || !conf.None(m.Conf()) || m.Does() != 0 {
		t.Error("a new one")
	}
	for i, p := range []api.Pair{
		{Key: "p", Value: ""}, {Key: "p", Value: "\x00x"}, {Key: "p", Value: num.Put(api.MostEpoch + 1)}, {Key: "c", Value: "x"}, {Key: "c", Value: conf.Put(works(1)) + "x"},
		{Key: "d", Value: item.Put(of(1))}, {Key: "d" + num.Word(64), Value: item.Put(of(1))}, {Key: "d" + num.Word(1), Value: ""},
		{Key: "d" + num.Word(1) + "x", Value: item.Put(of(1))}, {Key: "m" + num.Word(1), Value: item.Put(of(1))}, {Key: "b" + num.Word(1), Value: item.Put(of(1)) + "x"},
	} {
		_, j := fresh()
		j.Put(p.Key, p.Value)
		if member.Load(j, 0, 4, 0) != nil {
			t.Error(i)
		}
	}
}

// Where there is no room nothing is said, and nothing is there that is not kept.
func TestNoRoom(t *testing.T) {
	d, _ := disk.New(20)
	j, _ := journal.Open(d)
	m := member.Load(j, 3, 4, 0)
	m.Handle(install(2))
	said := 0
	for b := range api.MostBlocks {
		store := api.Msg{Kind: api.MsgStore, From: 5, Epoch: 2, Seq: 1, Block: b, Item: of(9)}
		first, again := m.Handle(store), m.Handle(store)
		if len(first) != len(again) || len(first) != 0 && m.Chain().Load(b) != of(9) || len(first) == 0 && m.Chain().Load(b) != (api.Item{}) {
			t.Fatal(b)
		}
		said += len(first)
	}
	if said == 0 || said == api.MostBlocks {
		t.Error(said)
	}
	if l := m.Handle(api.Msg{Kind: api.MsgPut, From: 5, Epoch: 2, Seq: 1, Item: of(9)}); l != nil || m.Mirror().Dirty() != nil {
		t.Error("a mirror without room")
	}
}

func TestNone(t *testing.T) {
	var m *member.Member
	if m.Promised() != 0 || !conf.None(m.Conf()) || m.Mirror() != nil || m.Chain() != nil || m.Does() != 0 || m.Handle(api.Msg{Kind: api.MsgSeal, From: 5, Epoch: 1}) != nil {
		t.Error("of none")
	}
}
