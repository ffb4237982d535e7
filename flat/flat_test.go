package flat_test

import (
	"math"
	"slices"
	"strings"
	"testing"

	"tarn/api"
	"tarn/flat"
)

func block(s string) string { return strings.Repeat(s, 32) }

func write(id int, s string) api.Event {
	return api.Event{ID: id, Ask: api.Ask{What: api.AskWrite, Data: block(s)}}
}

func read(id int) api.Event { return api.Event{ID: id, Ask: api.Ask{Len: 32}} }

func done(id int) api.Event { return api.Event{Answer: true, ID: id} }

func told(id int, s string) api.Event { return api.Event{Answer: true, ID: id, Data: block(s)} }

func refused(id int) api.Event { return api.Event{Answer: true, ID: id, Err: api.ErrBusy} }

func TestDo(t *testing.T) {
	f := flat.New(3)
	for i, c := range []struct {
		a    api.Ask
		want api.Reply
	}{
		{api.Ask{Len: 64}, api.Reply{Data: block("\x00") + block("\x00")}},
		{api.Ask{What: api.AskWrite, At: 32, Data: block("a") + block("b")}, api.Reply{}},
		{api.Ask{What: api.AskTrim, At: 32, Len: 32, Sure: true}, api.Reply{}},
		{api.Ask{At: 32, Len: 64}, api.Reply{Data: block("\x00") + block("b")}},
		{api.Ask{What: api.AskFlush}, api.Reply{}},
		{api.Ask{At: 64, Len: 64}, api.Reply{Err: api.ErrInput}},
		{api.Ask{What: api.AskWrite, At: 64, Data: block("a") + block("b")}, api.Reply{Err: api.ErrInput}},
	} {
		c.want.ID = i
		if got := f.Do(i, c.a); got != c.want {
			t.Error(i, got)
		}
	}
	if f.Bytes() != block("\x00")+block("\x00")+block("b") {
		t.Error("bytes")
	}
	for _, n := range []int{0, -1, api.MostBlocks + 1, math.MinInt} {
		f := flat.New(n)
		if f == nil || f.Bytes() != "" || f.Do(1, api.Ask{Len: 32}).Err != api.ErrInput || f.Do(1, api.Ask{What: api.AskFlush}).Err != api.OK {
			t.Error("of none", n)
		}
	}
	if len(flat.New(api.MostBlocks).Bytes()) != 2048 {
		t.Error("MostBlocks")
	}
	var none *flat.Flat
	if none.Bytes() != "" || none.Do(4, api.Ask{Len: 32}) != (api.Reply{ID: 4, Err: api.ErrInput}) {
		t.Error("none")
	}
}

func TestSpans(t *testing.T) {
	l := []api.Event{write(1, "a"), read(2), told(2, "\x00"), read(3), done(1), write(4, "b"), told(3, "a"), read(5), read(6), told(6, "a"), refused(5), write(7, "c"), refused(7)}
	want := []api.Span{{Value: block("\x00"), Ended: -1, Began: 1}, {Value: block("a"), Ended: 4, Began: 8}, {Value: block("b"), Ended: api.Never, Began: 5}}
	if got, ok := flat.Spans(l, 1, 0); !ok || !slices.Equal(got, want) {
		t.Error(got)
	}
	noughts := []api.Span{{Value: block("\x00"), Ended: -1, Began: -1}}
	if got, ok := flat.Spans(nil, 1, 0); !ok || !slices.Equal(got, noughts) {
		t.Error("of nothing", got)
	}
	if got, ok := flat.Spans(l, 1, 1); !ok || !slices.Equal(got, noughts) {
		t.Error("of another block", got)
	}
	for i, l := range [][]api.Event{
		{write(1, "a"), write(2, "a")}, {write(1, "\x00")}, {{ID: 1, Ask: api.Ask{What: api.AskTrim, Len: 32}}},
	} {
		if got, ok := flat.Spans(l, 1, 0); ok || got != nil || !flat.Fits(append(l, read(9), told(9, "x")), 1, 0) {
			t.Error(i)
		}
	}
	if _, ok := flat.Spans([]api.Event{write(1, "a"), refused(1), write(2, "a")}, 1, 0); !ok {
		t.Error("what was refused did nothing")
	}
	two := []api.Event{{ID: 1, Ask: api.Ask{At: 32, Len: 64}}, {Answer: true, ID: 1, Data: block("a") + block("b")}}
	if got, _ := flat.Spans(two, 3, 2); len(got) != 2 || got[1] != (api.Span{Value: block("b"), Ended: 1, Began: 0}) {
		t.Error("the second part", got)
	}
}

func TestFits(t *testing.T) {
	for i, c := range []struct {
		l    []api.Event
		want bool
	}{
		{nil, true},
		{[]api.Event{write(1, "a"), done(1), read(2), told(2, "a")}, true},
		{[]api.Event{write(1, "a"), done(1), read(2), told(2, "\x00")}, false},
		{[]api.Event{write(1, "a"), read(2), told(2, "\x00"), read(3), told(3, "a"), done(1)}, true},
		{[]api.Event{write(1, "a"), read(2), told(2, "a"), read(3), told(3, "\x00")}, false},
		{[]api.Event{read(2), told(2, "a"), write(1, "a")}, false},
		{[]api.Event{read(2), told(2, "a")}, false},
		{[]api.Event{read(2), write(1, "a"), told(2, "a")}, true},
		{[]api.Event{write(1, "a"), refused(1), read(2), told(2, "a")}, false},
		{[]api.Event{write(1, "a"), done(1), write(2, "b"), done(2), read(3), told(3, "b")}, true},
		{[]api.Event{write(1, "a"), done(1), write(2, "b"), done(2), read(3), told(3, "a")}, false},
		{[]api.Event{write(1, "a"), write(2, "b"), done(1), done(2), read(3), told(3, "a"), read(4), told(4, "b")}, false},
		{[]api.Event{write(1, "a"), write(2, "b"), done(1), done(2), read(3), read(4), told(3, "a"), told(4, "b")}, false},
		{[]api.Event{write(1, "a"), write(2, "b"), done(1), read(3), read(4), told(3, "a"), told(4, "b"), done(2)}, true},
		{[]api.Event{write(1, "a"), done(1), read(2), {Answer: true, ID: 2, Data: "short"}}, false},
		{[]api.Event{write(1, "a"), read(2), read(3), told(3, "\x00")}, true},
	} {
		if flat.Fits(c.l, 1, 0) != c.want {
			t.Error(i)
		}
	}
}
