package msg_test

import (
	"math"
	"strings"
	"testing"

	"tarn/api"
	"tarn/frame"
	"tarn/msg"
	"tarn/num"
)

func full() api.Msg {
	x := api.Item{Ver: 9, Data: strings.Repeat("a", 32)}
	c := api.Conf{Epoch: 2, By: 5, Count: 3, Mirrors: []int{3}, Chain: []int{0, 1}}
	w := api.Cmd{Kind: api.CmdPrepare, Conf: api.Conf{By: 6, Count: 1, Chain: []int{2}}}
	return api.Msg{
		Kind: api.MsgPut, From: 5, To: 3, Term: 1, A: 2, B: 3, N: 4, Yes: true, Epoch: 5, Seq: 6, Block: 7, Item: x,
		Items: []api.Held{{Block: 1, Item: x}, {Block: 2}}, More: []api.Held{{Block: 63, Item: x}}, Conf: c,
		State: api.State{Epoch: 2, Active: c, Next: c, Seen: [2]int{3, 1}}, Cmd: w, Entries: []api.Entry{{Term: 1}, {Term: 2, Cmd: w}},
	}
}

// wrong is changes of a message that make it one that may not be.
func wrong() []func(*api.Msg) {
	most := 1<<20 + 1
	return []func(*api.Msg){
		func(m *api.Msg) { m.Kind = 0 }, func(m *api.Msg) { m.Kind = api.MsgSnap + 1 }, func(m *api.Msg) { m.Kind = -1 },
		func(m *api.Msg) { m.From = -1 }, func(m *api.Msg) { m.To = 7 }, func(m *api.Msg) { m.Term = -1 }, func(m *api.Msg) { m.Term = most },
		func(m *api.Msg) { m.A = most }, func(m *api.Msg) { m.B = -1 }, func(m *api.Msg) { m.N = math.MaxInt }, func(m *api.Msg) { m.Epoch = most },
		func(m *api.Msg) { m.Seq = most }, func(m *api.Msg) { m.Block = 64 }, func(m *api.Msg) { m.Block = -1 },
		func(m *api.Msg) { m.Item.Data = "x" }, func(m *api.Msg) { m.Items = []api.Held{{Block: 2}, {Block: 2}} },
		func(m *api.Msg) { m.Items = []api.Held{{Block: 2}, {Block: 1}} }, func(m *api.Msg) { m.More = []api.Held{{Block: 64}} },
		func(m *api.Msg) { m.More = []api.Held{{Block: -1}} }, func(m *api.Msg) { m.More = []api.Held{{Item: api.Item{Data: "x"}}} },
		func(m *api.Msg) { m.Conf = api.Conf{Epoch: 1} }, func(m *api.Msg) { m.State.Epoch = most }, func(m *api.Msg) { m.State.Seen[1] = -1 },
		func(m *api.Msg) { m.State.Active.By = 1 }, func(m *api.Msg) { m.State.Next.By = 1 }, func(m *api.Msg) { m.Cmd.Kind = 5 },
		func(m *api.Msg) { m.Entries = make([]api.Entry, 1) }, func(m *api.Msg) { m.Entries = entries(api.MostBatch + 1) },
	}
}

func entries(n int) []api.Entry {
	l := make([]api.Entry, n)
	for i := range l {
		l[i].Term = 1
	}
	return l
}

func TestMay(t *testing.T) {
	if !msg.May(full()) || !msg.May(api.Msg{Kind: api.MsgVote}) || msg.May(api.Msg{}) {
		t.Error("may")
	}
	for i, f := range wrong() {
		m := full()
		f(&m)
		if msg.May(m) || msg.Put(m) != "" {
			t.Error("may not", i)
		}
	}
	m := full()
	m.Kind, m.From, m.To, m.A, m.Epoch, m.Seq, m.Block = api.MsgSnap, 0, 6, 1<<20, 1<<20, 1<<20, 63
	m.Entries = entries(api.MostBatch)
	if !msg.May(m) {
		t.Error("the most that may be")
	}
}

func TestGetOfPut(t *testing.T) {
	for kind := api.MsgVote; kind <= api.MsgSnap; kind++ {
		m := full()
		m.Kind = kind
		for _, m := range []api.Msg{m, {Kind: kind, From: 1, To: 6}} {
			if got, e := msg.Get(msg.Put(m)); !msg.Same(got, m) || e != api.OK {
				t.Error(m, got, e)
			}
		}
	}
	m := full()
	m.Items, m.More = nil, nil
	for b := range api.MostBlocks {
		m.Items = append(m.Items, api.Held{Block: b, Item: full().Item})
		m.More = append(m.More, api.Held{Block: b, Item: full().Item})
	}
	if got, e := msg.Get(msg.Put(m)); !msg.Same(got, m) || e != api.OK {
		t.Error("of all blocks", e)
	}
}

func TestAsBytes(t *testing.T) {
	m := api.Msg{Kind: api.MsgVoted, From: 1, To: 2, Term: 3, Yes: true}
	none := "\x01\x03\x00\x00\x00\x00\x00"
	want := frame.Put(num.List([]int{2, 1, 2, 3, 0, 0, 0, 0, 0, 0}) + "y" + "\x00\x00" + "\x00" + "\x00" + none + "\x00" + none + none + num.List([]int{0, 0}) + "\x00" + none + "\x00")
	if got := msg.Put(m); got != want {
		t.Errorf("%x\n%x", got, want)
	}
}

func TestGetRefuses(t *testing.T) {
	b := msg.Put(full())
	body, _ := frame.Get(b)
	for i, c := range []struct {
		s    string
		want api.Errno
	}{
		{"", api.ErrShort}, {b[:len(b)-1], api.ErrShort}, {b[:len(b)-1] + "\x00", api.ErrCheck}, {b + "x", api.ErrForm},
		{frame.Put(""), api.ErrShort}, {frame.Put(body + "x"), api.ErrForm}, {frame.Put(body[:len(body)-1]), api.ErrShort},
		{frame.Put(num.List([]int{1, 2, 3})), api.ErrForm}, {frame.Put(strings.Replace(body, "y", "x", 1)), api.ErrForm},
		{frame.Put("\x01\x0a\x01\x17" + body[4:]), api.ErrForm}, {frame.Put("\x01\x0a\x00" + body[4:]), api.ErrForm},
		{frame.Put(body[:4] + "\x01\x07" + body[6:]), api.ErrForm},
	} {
		if m, e := msg.Get(c.s); !msg.Same(m, api.Msg{}) || e != c.want {
			t.Error(i, e, c.want)
		}
	}
}

func TestSame(t *testing.T) {
	if !msg.Same(full(), full()) || !msg.Same(api.Msg{Items: []api.Held{}}, api.Msg{}) {
		t.Error("same")
	}
	for i, f := range append(wrong(), func(m *api.Msg) { m.Yes = false }, func(m *api.Msg) { m.Item.Ver++ }, func(m *api.Msg) { m.Cmd.Conf.By = 5 }) {
		m := full()
		f(&m)
		if msg.Same(m, full()) {
			t.Error("unlike", i)
		}
	}
}
