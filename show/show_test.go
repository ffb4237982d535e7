package show_test

import (
	"math"
	"strings"
	"testing"

	"tarn/api"
	"tarn/show"
	"tarn/ver"
)

func block(s string) string { return strings.Repeat(s, 32) }

func check(t *testing.T, l ...string) {
	t.Helper()
	for i := 0; i < len(l); i += 2 {
		if l[i] != l[i+1] {
			t.Errorf("%q, not %q", l[i], l[i+1])
		}
	}
}

func TestNumbersAndErrors(t *testing.T) {
	check(t,
		show.Num(5), "5", show.Num(-12), "-12", show.Num(math.MinInt), "-9223372036854775808", show.List([]int{1, 2}), "[1 2]", show.List(nil), "[]", show.List([]int{-3}), "[-3]",
		show.Errno(api.OK), "ok", show.Errno(api.ErrInput), "input", show.Errno(api.ErrBusy), "busy", show.Errno(api.ErrReadOnly), "readonly",
		show.Errno(api.ErrFull), "full", show.Errno(api.ErrNone), "none", show.Errno(api.ErrCheck), "error 30", show.Errno(api.ErrShort), "error 2", show.Errno(-1), "error -1",
	)
}

func TestDataAndItems(t *testing.T) {
	v := ver.Of(3, 7)
	check(t,
		show.Data(""), "", show.Data(block("a")), "61*", show.Data(block("a")+block("\x00")), "61* 00*", show.Data(block("a")+"bc"), "61* 6263",
		show.Ver(v), "3.7", show.Ver(0), "0.0", show.Ver(5), "0.0", show.Item(api.Item{Ver: v}), "3.7 noughts", show.Item(api.Item{Ver: v, Data: block("\x00")}), "3.7 00*",
		show.Item(api.Item{Data: block("a") + block("a")}), "0.0 61*", show.Held(nil), "",
		show.Held([]api.Held{{Block: 5, Item: api.Item{Ver: ver.Of(1, 1), Data: block("a")}}, {Block: 6, Item: api.Item{Ver: ver.Of(1, 2)}}}), "5: 1.1 61*, 6: 1.2 noughts",
	)
}

func TestConf(t *testing.T) {
	check(t,
		show.Conf(api.Conf{}), "none", show.Conf(api.Conf{Epoch: 3, By: 5, Count: 9, Mirrors: []int{1, 2}, Chain: []int{3, 4}}), "3 by 5 mirrors [1 2] chain [3 4]",
		show.Conf(api.Conf{Count: 1}), "0 by 0 mirrors [] chain []",
	)
}

func TestAskAndEvent(t *testing.T) {
	w := api.Ask{What: api.AskWrite, Data: block("a") + block("b"), Sure: true}
	plain := w
	plain.Sure, plain.At = false, 64
	check(t,
		show.Ask(api.Ask{Len: 32, Sure: true}), "read 0 32", show.Ask(w), "write 0 sure 61* 62*", show.Ask(plain), "write 64 61* 62*",
		show.Ask(api.Ask{What: api.AskWrite}), "write 0 ", show.Ask(api.Ask{What: api.AskWrite, Sure: true}), "write 0 sure ",
		show.Ask(api.Ask{What: api.AskTrim, Len: 64, Sure: true}), "trim 0 64 sure", show.Ask(api.Ask{What: api.AskTrim, At: -1}), "trim -1 0",
		show.Ask(api.Ask{What: api.AskFlush, At: 3, Sure: true}), "flush", show.Ask(api.Ask{What: 7}), "ask 7", show.Ask(api.Ask{What: -1}), "ask -1",
		show.Event(api.Event{ID: 1, Gate: 5, Ask: api.Ask{Len: 32}}), "1 at 5: read 0 32",
		show.Event(api.Event{Answer: true, ID: 1, Gate: 5, Data: block("a")}), "1 at 5: ok 61*", show.Event(api.Event{Answer: true, ID: 2, Gate: 6, Err: api.ErrBusy}), "2 at 6: busy",
	)
}

func TestMsg(t *testing.T) {
	put := api.Msg{Kind: api.MsgPut, From: 5, To: 1, Term: 9, Epoch: 1, Seq: 2, Block: 3, Item: api.Item{Ver: ver.Of(1, 1), Data: block("a")}}
	warm := put
	warm.Kind, warm.Seq = api.MsgWarm, 0
	vote := put
	vote.Kind = api.MsgVote
	check(t,
		show.Msg(put), "put 5->1 epoch 1 seq 2 block 3 1.1 61*", show.Msg(warm), "warm 5->1 epoch 1 1.1 61*", show.Msg(vote), "vote 5->1 term 9",
		show.Msg(api.Msg{Kind: api.MsgSnap, From: 1}), "snap 1->0 term 0", show.Msg(api.Msg{Kind: api.MsgWish, From: 5}), "wish 5->0",
		show.Msg(api.Msg{Kind: api.MsgPutDone, From: 1, To: 5, Epoch: 7, Seq: 1}), "putdone 1->5 epoch 7 seq 1 block 0", show.Msg(api.Msg{}), "message 0",
		show.Msg(api.Msg{Kind: -4}), "message -4", show.Msg(api.Msg{Kind: 23}), "message 23",
	)
	names := "vote voted append appended wish state seal sealed install installed put putdone check value store stored load loaded clean cleaned warm snap"
	for i, name := range strings.Fields(names) {
		if got := show.Msg(api.Msg{Kind: i + 1}); !strings.HasPrefix(got, name+" 0->0") {
			t.Error(got)
		}
	}
}

func TestWrong(t *testing.T) {
	check(t,
		show.Wrong(0), "right", show.Wrong(api.AuditLeads|api.AuditChain), "leads chain", show.Wrong(31), "leads decides epochs chain mirrors",
		show.Wrong(api.AuditDecides), "decides", show.Wrong(api.AuditEpochs|api.AuditMirrors), "epochs mirrors",
	)
}
