package script_test

import (
	"reflect"
	"strings"
	"testing"

	"tarn/api"
	"tarn/sched"
	"tarn/script"
)

func block(s string) string { return strings.Repeat(s, 32) }

func ask(a api.Ask) api.Act { return api.Act{What: api.ActAsk, Who: 5, Ask: a} }

func TestActOfLine(t *testing.T) {
	for line, want := range map[string]api.Act{
		"ask 5 read 0 32":             ask(api.Ask{Len: 32}),
		"ask 5 write 0 sure 61*":      ask(api.Ask{What: api.AskWrite, Data: block("a"), Sure: true}),
		"ask 5 write -32 61* 6200*":   ask(api.Ask{What: api.AskWrite, At: -32, Data: block("a") + "b" + block("\x00")[1:]}),
		"ask 5 trim 0 32 sure":        ask(api.Ask{What: api.AskTrim, Len: 32, Sure: true}),
		"ask 5 trim 64 32":            ask(api.Ask{What: api.AskTrim, At: 64, Len: 32}),
		"ask 5 flush":                 ask(api.Ask{What: api.AskFlush}),
		"take 5 1 2 chain 3 4":        {What: api.ActTake, Who: 5, Mirrors: []int{1, 2}, Chain: []int{3, 4}},
		"take 6 chain":                {What: api.ActTake, Who: 6},
		"take 6 chain 9 -1":           {What: api.ActTake, Who: 6, Chain: []int{9, -1}},
		"settle 5 0":                  {What: api.ActSettle, Who: 5},
		"deliver 7":                   {What: api.ActDeliver, A: 7},
		"drop 0":                      {What: api.ActDrop},
		"double -3":                   {What: api.ActDouble, A: -3},
		"junk 6162":                   {What: api.ActJunk, S: "ab"},
		"junk ":                       {What: api.ActJunk},
		"tick 0":                      {What: api.ActTick},
		"sync 4":                      {What: api.ActSync, Who: 4},
		"crash 0 3 5":                 {What: api.ActCrash, A: 3, B: 5},
		"start 0":                     {What: api.ActStart},
		"wipe 4":                      {What: api.ActWipe, Who: 4},
		"wipe -9223372036854775808":   {What: api.ActWipe, Who: -1 << 63},
		"deliver 9223372036854775807": {What: api.ActDeliver, A: 1<<63 - 1},
	} {
		if got, e := script.Act(line); e != api.OK || !reflect.DeepEqual(got, want) {
			t.Errorf("%s: %+v", line, got)
		}
		if got := script.Line(want); got != line {
			t.Errorf("%q, not %q", got, line)
		}
	}
	if a, e := script.Act("junk 4A"); a.S != "J" || e != api.OK {
		t.Error("great letters")
	}
	if a, e := script.Act("ask 5 write 0 " + strings.Repeat("61", 32)); a.Ask.Data != block("a") || e != api.OK {
		t.Error("a block that is not short")
	}
}

func TestActRefuses(t *testing.T) {
	for _, s := range []string{
		"", " ", "ask", "ask 5", "ask 5 read", "ask 5 read 0", "ask 5 read 0 32 ", "ask 5 read 0 32 sure", "ask  5 flush", " ask 5 flush", "ask 5 flush ", "ask x flush",
		"ask 5 write", "ask 5 write 0", "ask 5 write 0 ", "ask 5 write 0 sure", "ask 5 write 0 61", "ask 5 write 0 61* ", "ask 5 write sure 61*", "ask 5 write 0 61* sure", "ask 5 wipe",
		"ask 5 trim 0", "ask 5 trim 0 32 sur", "ask 5 trim 0 32 sure sure", "take", "take 5", "take 5 1", "take 5 chain chain", "take 5 1 x chain 2", "take 5 chain 1 ",
		"settle 5", "settle 5 0 0", "deliver", "deliver 01", "deliver +1", "deliver -0", "deliver 0x1", "deliver 1_0", "deliver 9223372036854775808", "deliver 1.0", "Deliver 0",
		"junk", "junk 6", "junk 6g", "junk 61 62", "junk  ", "tick", "tick 0 0", "sync", "crash 0", "crash 0 3", "crash 0 3 5 7", "start", "wipe", "tick\t0", "tick 0\n", "junk 61\x7f",
		"tick 0\x80", "tick é", "walk 1", "ask 5 ask 7",
	} {
		if a, e := script.Act(s); e != api.ErrLine || !reflect.DeepEqual(a, api.Act{}) {
			t.Errorf("%q: %+v %d", s, a, e)
		}
	}
}

func TestLineOfNoSuchAct(t *testing.T) {
	for _, a := range []api.Act{{What: -1}, {What: 12}, ask(api.Ask{What: 4}), ask(api.Ask{What: -1})} {
		if s := script.Line(a); s != "" {
			t.Error(s)
		}
	}
	if s := script.Line(ask(api.Ask{What: api.AskWrite})); s != "ask 5 write 0 " {
		t.Errorf("%q", s)
	}
}

func TestActs(t *testing.T) {
	l, line, e := script.Acts("tick 1\n\n# é a remark\nsync 2\n")
	if len(l) != 2 || l[1].Who != 2 || line != 0 || e != api.OK {
		t.Error(l, line, e)
	}
	for s, want := range map[string]int{"x": 1, "tick 1\nx\n": 2, "\n\n #\n": 3, "tick 1\ntick": 2, "tick 1\r\n": 1, "tick 1\n\n\n": 0, "": 0, "\n": 0} {
		l, line, e := script.Acts(s)
		if line != want || (e == api.ErrLine) != (want > 0) || want > 0 && l != nil {
			t.Errorf("%q: %d %d", s, line, e)
		}
	}
	if _, _, e := script.Acts(strings.Repeat("\n", api.MostLines)); e != api.OK {
		t.Error("MostLines")
	}
	if l, line, e := script.Acts("x" + strings.Repeat("\n", api.MostLines+1)); l != nil || line != 0 || e != api.ErrMuch {
		t.Error("above MostLines")
	}
	if _, _, e := script.Acts("#" + strings.Repeat("x", api.MostScript-1)); e != api.OK {
		t.Error("MostScript")
	}
	if _, _, e := script.Acts("#" + strings.Repeat("x", api.MostScript)); e != api.ErrMuch {
		t.Error("above MostScript")
	}
}

func TestDrawnActs(t *testing.T) {
	for _, a := range sched.New(3, sched.Even()).Acts(2000, 8) {
		got, e := script.Act(script.Line(a))
		if a.Ask.What == api.AskRead || a.Ask.What == api.AskFlush {
			a.Ask.Sure = false
		}
		if a.Ask.What == api.AskFlush {
			a.Ask.At, a.Ask.Len = 0, 0
		}
		if e != api.OK || !reflect.DeepEqual(got, a) {
			t.Fatalf("%+v, not %+v", got, a)
		}
	}
}
