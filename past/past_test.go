package past_test

import (
	"slices"
	"strings"
	"testing"

	"tarn/api"
	"tarn/past"
)

func block(s string) string { return strings.Repeat(s, 32) }

func TestUses(t *testing.T) {
	l := []api.Event{
		{ID: 1, Ask: api.Ask{What: api.AskWrite, At: 32, Data: block("a") + block("b")}},
		{ID: 2, Ask: api.Ask{At: 0, Len: 96}},
		{ID: 3, Ask: api.Ask{At: 64, Len: 32}},
		{ID: 4, Ask: api.Ask{What: api.AskTrim, Len: 96}},
		{ID: 5, Ask: api.Ask{What: api.AskWrite, At: 64, Data: block("c")}},
		{ID: 6, Ask: api.Ask{At: 64, Len: 32}},
		{ID: 7, Ask: api.Ask{What: api.AskFlush}},
		{Answer: true, ID: 2, Data: block("x") + block("y") + block("z")},
		{Answer: true, ID: 5, Err: api.ErrBusy},
		{Answer: true, ID: 1},
		{Answer: true, ID: 3, Err: api.ErrInput},
		{Answer: true, ID: 1, Err: api.ErrInput},
		{ID: 8, Ask: api.Ask{At: 64, Len: 32}},
		{Answer: true, ID: 8, Data: "short"},
	}
	want := []api.Use{
		{Write: true, Value: block("b"), From: 0, To: 9}, {Value: block("z"), From: 1, To: 7}, {Write: true, Value: block("\x00"), From: 3, To: api.Never},
		{Value: "short", From: 12, To: 13},
	}
	if got := past.Uses(l, 3, 2); !slices.Equal(got, want) {
		t.Errorf("%+v", got)
	}
	if past.Uses(l, 3, 3) != nil || past.Uses(l, 0, 0) != nil || past.Uses(nil, 3, -1) != nil {
		t.Error("no such block")
	}
}
