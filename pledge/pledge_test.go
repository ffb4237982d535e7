package pledge_test

import (
	"math"
	"slices"
	"strings"
	"testing"

	"tarn/api"
	"tarn/pledge"
)

func block(s string) string { return strings.Repeat(s, 32) }

func write(id int, s string) api.Event {
	return api.Event{ID: id, Ask: api.Ask{What: api.AskWrite, Data: block(s)}}
}

func done(id int) api.Event { return api.Event{Answer: true, ID: id} }

func refused(id int) api.Event { return api.Event{Answer: true, ID: id, Err: api.ErrBusy} }

func TestOf(t *testing.T) {
	trim := api.Event{ID: 1, Ask: api.Ask{What: api.AskTrim, Len: 32}}
	read := api.Event{ID: 9, Ask: api.Ask{Len: 32}}
	for i, c := range []struct {
		l     []api.Event
		sure  string
		maybe string
	}{
		{nil, "\x00", ""}, {[]api.Event{write(1, "a")}, "\x00", "a"}, {[]api.Event{write(1, "a"), done(1)}, "a", ""}, {[]api.Event{write(1, "a"), refused(1)}, "\x00", ""},
		{[]api.Event{write(1, "a"), done(1), write(2, "b"), done(2)}, "b", ""}, {[]api.Event{write(1, "a"), done(1), write(2, "b")}, "a", "b"},
		{[]api.Event{write(1, "a"), write(2, "b"), done(2), done(1)}, "b", "a"}, {[]api.Event{write(1, "a"), write(2, "b"), done(1), done(2)}, "b", "a"},
		{[]api.Event{write(1, "a"), write(2, "b"), done(1), write(3, "c"), done(3), done(2)}, "c", "b"}, {[]api.Event{write(1, "a"), write(2, "b"), done(2), write(3, "c"), done(3)}, "c", "a"},
		{[]api.Event{write(1, "a"), write(2, "a"), write(3, "b"), write(4, "b"), done(4)}, "b", "a"}, {[]api.Event{write(1, "b"), write(2, "a"), write(3, "b")}, "\x00", "ba"},
		{[]api.Event{write(1, "a"), write(2, "b"), refused(1), done(2), write(3, "\x00")}, "b", "\x00"}, {[]api.Event{trim, write(2, "b"), done(2)}, "b", "\x00"},
		{[]api.Event{write(2, "b"), trim, done(1), done(2)}, "\x00", "b"}, {[]api.Event{read, {Answer: true, ID: 9, Data: block("q")}, write(1, "a")}, "\x00", "a"},
		{[]api.Event{write(1, "a"), write(2, "b"), done(1)}, "a", "b"},
	} {
		var maybe []string
		for _, r := range c.maybe {
			maybe = append(maybe, block(string(r)))
		}
		p := pledge.Of(c.l, 1, 0)
		if p.Sure != block(c.sure) || !slices.Equal(p.Maybe, maybe) {
			t.Errorf("%d: %q %q", i, p.Sure[:1], p.Maybe)
		}
		if !pledge.Keeps(p, block(c.sure)) || pledge.Keeps(p, block("z")) || pledge.Keeps(p, "") || len(maybe) > 0 && !pledge.Keeps(p, maybe[0]) {
			t.Error("keeps", i)
		}
	}
	if p := pledge.Of([]api.Event{write(1, "a"), done(1)}, 1, 1); p.Sure != block("\x00") || p.Maybe != nil {
		t.Error("of another block")
	}
}

func TestAll(t *testing.T) {
	l := []api.Event{write(1, "a"), done(1), {ID: 2, Ask: api.Ask{What: api.AskWrite, At: 32, Data: block("b") + block("c")}}}
	for s, want := range map[string]int{
		block("a") + block("b") + block("\x00"): -1, block("a") + block("\x00") + block("c"): -1, block("b") + block("b") + block("c"): 0, block("a") + block("c") + block("c"): 1,
		block("a") + block("b") + block("d"): 2, block("a") + block("b"): 2, block("a") + block("b") + block("c")[1:]: 2, "": 0, block("a") + block("b") + block("c") + "more": -1,
	} {
		if got := pledge.All(l, 3, s); got != want {
			t.Errorf("%q: %d", s, got)
		}
	}
	if pledge.All(l, 0, "") != -1 || pledge.All(l, -5, "") != -1 || pledge.All(nil, math.MaxInt, strings.Repeat("\x00", 2048)) != -1 {
		t.Error("of no blocks, of all")
	}
}
