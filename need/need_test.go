package need_test

import (
	"math"
	"slices"
	"strings"
	"testing"

	"tarn/api"
	"tarn/need"
)

func block(s string) string { return strings.Repeat(s, 32) }

func TestMay(t *testing.T) {
	for _, c := range []struct {
		a      api.Ask
		blocks int
		ok     bool
	}{
		{api.Ask{Len: 32}, 1, true}, {api.Ask{At: 32, Len: 128}, 5, true}, {api.Ask{At: 32, Len: 128}, 4, false}, {api.Ask{Len: 160}, 9, false},
		{api.Ask{Len: 0}, 9, false}, {api.Ask{Len: 33}, 9, false}, {api.Ask{Len: -32}, 9, false}, {api.Ask{At: 1, Len: 32}, 9, false},
		{api.Ask{At: -32, Len: 32}, 9, false}, {api.Ask{At: 32, Len: 32}, 1, false}, {api.Ask{At: math.MaxInt - 31, Len: 32}, 9, false},
		{api.Ask{At: 32, Len: math.MaxInt - 31}, 9, false}, {api.Ask{Len: 32}, 0, false}, {api.Ask{Len: 32}, -1, false}, {api.Ask{Len: 32}, math.MaxInt, true},
		{api.Ask{At: 63 * 32, Len: 32}, 64, true}, {api.Ask{At: 64 * 32, Len: 32}, 65, false},
		{api.Ask{What: api.AskWrite, Data: block("a"), Len: 7}, 1, true}, {api.Ask{What: api.AskWrite, Data: block("a")[1:]}, 1, false},
		{api.Ask{What: api.AskWrite, Len: 32}, 1, false}, {api.Ask{What: api.AskWrite, At: 32, Data: block("abcd")}, 5, true}, {api.Ask{What: api.AskWrite, At: 32, Data: block("abcde")}, 9, false},
		{api.Ask{What: api.AskTrim, Len: 32, Data: "x", Sure: true}, 1, true}, {api.Ask{What: api.AskTrim, Len: 31}, 1, false},
		{api.Ask{What: api.AskFlush}, 0, true}, {api.Ask{What: api.AskFlush, At: -7, Len: 9, Data: "x"}, -1, true}, {api.Ask{What: 4, Len: 32}, 9, false}, {api.Ask{What: -1, Len: 32}, 9, false},
	} {
		want := api.OK
		if !c.ok {
			want = api.ErrInput
		}
		if got := need.May(c.a, c.blocks); got != want {
			t.Error(c, got)
		}
		if !c.ok && need.Parts(c.a, c.blocks) != nil {
			t.Error("parts of", c)
		}
	}
}

func TestSizeParts(t *testing.T) {
	w := api.Ask{What: api.AskWrite, At: 64, Data: block("a") + block("b"), Len: 5}
	r := api.Ask{At: 96, Len: 32, Data: "xyz"}
	trim := api.Ask{What: api.AskTrim, Len: 64, Data: "xyz"}
	if need.Size(w) != 64 || need.Size(r) != 32 || need.Size(trim) != 64 || need.Size(api.Ask{What: 9, Len: 3, Data: "x"}) != 3 {
		t.Error("size")
	}
	for _, c := range []struct {
		a    api.Ask
		want []api.Part
	}{
		{w, []api.Part{{Block: 2, Write: true, Data: block("a")}, {Block: 3, Write: true, Data: block("b")}}}, {r, []api.Part{{Block: 3}}},
		{trim, []api.Part{{Block: 0, Write: true, Data: block("\x00")}, {Block: 1, Write: true, Data: block("\x00")}}}, {api.Ask{What: api.AskFlush, Len: 32}, nil},
	} {
		if got := need.Parts(c.a, 4); !slices.Equal(got, c.want) {
			t.Error(got)
		}
	}
}
