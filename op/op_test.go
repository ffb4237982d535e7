package op_test

import (
	"slices"
	"strings"
	"testing"

	"tarn/api"
	"tarn/msg"
	"tarn/op"
)

func of(ver uint64) api.Item { return api.Item{Ver: ver, Data: strings.Repeat("a", 32)} }

func with() api.Conf {
	return api.Conf{Epoch: 4, By: 6, Count: 1, Mirrors: []int{3, 1}, Chain: []int{2, 0}}
}

func without() api.Conf { return api.Conf{Epoch: 4, By: 6, Count: 1, Chain: []int{2, 0}} }

func answer(kind, from int) api.Msg {
	return api.Msg{Kind: kind, From: from, To: 6, Epoch: 4, Seq: 9}
}

func value(from, a int, x api.Item) api.Msg {
	m := answer(api.MsgValue, from)
	m.A, m.Item = a, x
	return m
}

// says wants a step, and one message to each of some nodes.
func says(t *testing.T, o *op.Op, step, kind int, x api.Item, to ...int) {
	t.Helper()
	if o.Step() != step {
		t.Fatal("step", o.Step(), "not", step)
	}
	l := o.Say()
	if len(l) != len(to) {
		t.Fatal(l)
	}
	for i, m := range l {
		if !msg.Same(m, api.Msg{Kind: kind, From: 6, To: to[i], Epoch: 4, Seq: 9, Block: 7, Item: x}) {
			t.Errorf("%+v", m)
		}
	}
}

// hear wants answers to go on, or not.
func hear(t *testing.T, o *op.Op, want bool, l ...api.Msg) {
	t.Helper()
	for _, m := range l {
		if o.Hear(m) != want {
			t.Errorf("%+v", m)
		}
	}
}

func TestNew(t *testing.T) {
	zero, none := with(), api.Conf{}
	zero.Epoch = 0
	bad := with()
	bad.Chain = nil
	for i, o := range []*op.Op{
		op.New(with(), -1, 9, 7, of(1), false), op.New(with(), 3, 9, 7, of(1), false), op.New(with(), 0, -1, 7, of(1), false), op.New(with(), 0, api.MostSeq+1, 7, of(1), false),
		op.New(with(), 0, 9, -1, of(1), false), op.New(with(), 0, 9, 64, of(1), false), op.New(with(), 0, 9, 7, api.Item{Data: "x"}, false), op.New(zero, 0, 9, 7, of(1), false),
		op.New(none, 0, 9, 7, of(1), false), op.New(bad, 0, 9, 7, of(1), false),
	} {
		if o != nil {
			t.Error(i)
		}
	}
	c := with()
	o := op.New(c, api.OpWrite, api.MostSeq, 63, of(1), false)
	c.Mirrors[0], c.Chain[0] = 4, 4
	if o.Seq() != api.MostSeq || o.Block() != 63 || o.Item() != of(1) || o.Loaded() || !slices.Equal([]int{o.Say()[0].To, o.Say()[1].To}, []int{1, 3}) {
		t.Error("a writing")
	}
}

func TestWrite(t *testing.T) {
	o := op.New(with(), api.OpWrite, 9, 7, of(5), false)
	says(t, o, api.StepPut, api.MsgPut, of(5), 1, 3)
	for _, f := range []func(*api.Msg){
		func(m *api.Msg) { m.Epoch = 3 }, func(m *api.Msg) { m.Seq = 8 }, func(m *api.Msg) { m.Kind = api.MsgCleaned }, func(m *api.Msg) { m.Kind = api.MsgStored },
		func(m *api.Msg) { m.From = 2 }, func(m *api.Msg) { m.From = 5 }, func(m *api.Msg) { m.From = -1 },
	} {
		m := answer(api.MsgPutDone, 1)
		f(&m)
		hear(t, o, false, m)
	}
	hear(t, o, false, answer(api.MsgPutDone, 3), answer(api.MsgPutDone, 3))
	says(t, o, api.StepPut, api.MsgPut, of(5), 1)
	hear(t, o, true, answer(api.MsgPutDone, 1))
	says(t, o, api.StepDone, 0, api.Item{})
	hear(t, o, false, answer(api.MsgPutDone, 1))
	if o.Item() != of(5) || o.Loaded() {
		t.Error("what is written")
	}
}

func TestWriteSure(t *testing.T) {
	o := op.New(with(), api.OpWrite, 9, 7, of(5), true)
	hear(t, o, false, answer(api.MsgPutDone, 3))
	hear(t, o, true, answer(api.MsgPutDone, 1))
	says(t, o, api.StepStore, api.MsgStore, of(5), 2)
	hear(t, o, false, answer(api.MsgStored, 1))
	hear(t, o, true, answer(api.MsgStored, 0))
	says(t, o, api.StepClean, api.MsgClean, api.Item{Ver: 5}, 1, 3)
	hear(t, o, false, answer(api.MsgCleaned, 1))
	hear(t, o, true, answer(api.MsgCleaned, 3))
	says(t, o, api.StepDone, 0, api.Item{})
	for _, sure := range []bool{true, false} {
		o := op.New(without(), api.OpWrite, 9, 7, of(5), sure)
		says(t, o, api.StepStore, api.MsgStore, of(5), 2)
		hear(t, o, true, answer(api.MsgStored, 2))
		says(t, o, api.StepDone, 0, api.Item{})
	}
}

func TestSettle(t *testing.T) {
	o := op.New(with(), api.OpSettle, 9, 7, of(5), false)
	says(t, o, api.StepStore, api.MsgStore, of(5), 2)
	hear(t, o, true, answer(api.MsgStored, 0))
	says(t, o, api.StepClean, api.MsgClean, api.Item{Ver: 5}, 1, 3)
	o = op.New(without(), api.OpSettle, 9, 7, of(5), false)
	hear(t, o, true, answer(api.MsgStored, 0))
	says(t, o, api.StepDone, 0, api.Item{})
}

func TestReadOfMirrors(t *testing.T) {
	other := api.Item{Ver: 5, Data: strings.Repeat("b", 32)}
	for i, c := range []struct {
		first, last api.Msg
		want        api.Item
	}{
		{value(1, api.ValueNone, api.Item{}), value(3, api.ValueClean, of(2)), of(2)}, {value(1, api.ValueClean, of(2)), value(3, api.ValueNone, api.Item{}), of(2)},
		{value(1, api.ValueClean, of(9)), value(3, api.ValueDirty, of(2)), of(2)}, {value(1, api.ValueDirty, of(2)), value(3, api.ValueClean, of(9)), of(2)},
		{value(1, api.ValueDirty, of(2)), value(3, api.ValueDirty, of(3)), of(3)}, {value(1, api.ValueClean, of(3)), value(3, api.ValueClean, of(2)), of(3)},
		{value(3, api.ValueDirty, of(5)), value(1, api.ValueDirty, other), of(5)}, {value(1, api.ValueClean, api.Item{}), value(3, api.ValueNone, of(9)), api.Item{}},
	} {
		o := op.New(with(), api.OpRead, 9, 7, of(1), true)
		says(t, o, api.StepCheck, api.MsgCheck, api.Item{}, 1, 3)
		hear(t, o, false, c.first, c.first, value(c.last.From, 3, of(99)))
		if o.Item() != (api.Item{}) {
			t.Error("not read yet")
		}
		hear(t, o, true, c.last)
		says(t, o, api.StepDone, 0, api.Item{})
		if o.Item() != c.want || o.Loaded() {
			t.Error(i, o.Item())
		}
	}
}

func TestReadOfTheChain(t *testing.T) {
	loaded := answer(api.MsgLoaded, 0)
	loaded.Item = of(3)
	o := op.New(with(), api.OpRead, 9, 7, api.Item{}, false)
	hear(t, o, false, value(1, api.ValueNone, of(8)))
	hear(t, o, true, value(3, api.ValueNone, of(9)))
	says(t, o, api.StepLoad, api.MsgLoad, api.Item{}, 2)
	hear(t, o, false, value(3, api.ValueDirty, of(9)))
	hear(t, o, true, loaded)
	if o.Step() != api.StepDone || o.Item() != of(3) || !o.Loaded() {
		t.Error("of the chain")
	}
	o = op.New(without(), api.OpRead, 9, 7, api.Item{}, false)
	says(t, o, api.StepLoad, api.MsgLoad, api.Item{}, 2)
	hear(t, o, false, answer(api.MsgLoaded, 1))
	hear(t, o, true, loaded)
	if o.Item() != of(3) || !o.Loaded() {
		t.Error("without mirrors")
	}
}

func TestNone(t *testing.T) {
	var o *op.Op
	if o.Step() != api.StepDone || o.Seq() != 0 || o.Block() != 0 || o.Item() != (api.Item{}) || o.Loaded() || o.Say() != nil || o.Hear(api.Msg{}) {
		t.Error("of none")
	}
	zero := &op.Op{}
	if zero.Say() != nil || zero.Hear(api.Msg{Kind: api.MsgPutDone}) {
		t.Error("one that was not made")
	}
}
