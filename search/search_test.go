package search_test

import (
	"slices"
	"strings"
	"testing"

	"tarn/api"
	"tarn/search"
)

func w(value string, from, to int) api.Use {
	return api.Use{Write: true, Value: value, From: from, To: to}
}

func r(value string, from, to int) api.Use { return api.Use{Value: value, From: from, To: to} }

func TestOrder(t *testing.T) {
	never := api.Never
	for i, c := range []struct {
		l    []api.Use
		want bool
	}{
		{nil, true}, {[]api.Use{r("0", 1, 2)}, true}, {[]api.Use{r("a", 1, 2)}, false},
		{[]api.Use{w("a", 0, 1), r("a", 2, 3)}, true}, {[]api.Use{w("a", 0, 1), r("0", 2, 3)}, false},
		{[]api.Use{w("a", 0, 3), r("0", 1, 2)}, true}, {[]api.Use{w("a", 0, 3), r("a", 1, 2)}, true}, {[]api.Use{r("a", 0, 1), w("a", 2, 3)}, false},
		{[]api.Use{w("a", 0, never), r("0", 1, 2), r("a", 3, 4)}, true}, {[]api.Use{w("a", 0, never), r("a", 1, 2), r("0", 3, 4)}, false},
		{[]api.Use{w("a", 0, never), r("0", 1, 2)}, true}, {[]api.Use{r("x", 0, never)}, true},
		{[]api.Use{w("a", 0, 1), w("a", 4, 5), w("b", 2, 3), r("a", 6, 7)}, true}, {[]api.Use{w("a", 0, 1), w("b", 2, 3), r("a", 4, 5)}, false},
		{[]api.Use{w("a", 0, 9), w("b", 1, 8), r("a", 2, 3), r("b", 4, 5), r("a", 6, 7)}, false},
		{[]api.Use{w("a", 0, 9), w("b", 1, 8), r("a", 2, 3), r("b", 4, 5)}, true},
		{[]api.Use{r("b", 4, 5), r("a", 2, 3), w("b", 1, 8), w("a", 0, 9)}, true},
		{[]api.Use{w("0", 0, 1), r("0", 2, 3)}, true}, {[]api.Use{w("a", 0, 1), w("0", 2, 3), r("0", 4, 5)}, true},
	} {
		if search.Order(c.l, "0") != c.want {
			t.Error(i)
		}
	}
}

func TestMostUses(t *testing.T) {
	var l []api.Use
	for i := range api.MostUses {
		l = append(l, w(string(rune('a'+i)), 0, 100))
	}
	bad := append(slices.Clone(l[1:]), r("z", 101, 102))
	if !search.Order(l, "0") || search.Order(bad, "0") || !search.Order(append(bad, l[0]), "0") {
		t.Error("of more it says yes")
	}
}

func TestUses(t *testing.T) {
	block := func(s string) string { return strings.Repeat(s, 32) }
	l := []api.Event{
		{ID: 1, Ask: api.Ask{What: api.AskTrim, Len: 64}}, {ID: 2, Ask: api.Ask{What: api.AskWrite, At: 32, Data: block("a")}}, {ID: 3, Ask: api.Ask{Len: 64}},
		{Answer: true, ID: 3, Data: block("x") + block("y")}, {Answer: true, ID: 2, Err: api.ErrBusy}, {ID: 4, Ask: api.Ask{Len: 64}},
	}
	if got := search.Uses(l, 2, 1); !slices.Equal(got, []api.Use{w(block("\x00"), 0, api.Never), r(block("y"), 2, 3)}) {
		t.Error(got)
	}
}
