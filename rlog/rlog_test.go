package rlog_test

import (
	"math"
	"testing"

	"tarn/api"
	"tarn/entry"
	"tarn/rlog"
)

// of is entries of terms, each with a command that is the only one such.
func of(terms ...int) []api.Entry {
	var l []api.Entry
	for i, t := range terms {
		l = append(l, api.Entry{Term: t, Cmd: api.Cmd{Kind: api.CmdActivate, Conf: api.Conf{Epoch: i + 1}}})
	}
	return l
}

func terms(g *rlog.Log) []int {
	base, _ := g.Base()
	var l []int
	for at := base + 1; at <= g.Len(); at++ {
		l = append(l, g.Term(at))
	}
	return l
}

func want(t *testing.T, g *rlog.Log, l ...int) {
	t.Helper()
	got := terms(g)
	if len(got) != len(l) {
		t.Fatal(got, l)
	}
	for i := range l {
		if got[i] != l[i] {
			t.Fatal(got, l)
		}
	}
}

func TestNew(t *testing.T) {
	g := rlog.New(10, 3, of(3, 4, 0, 5))
	want(t, g, 3, 4)
	base, term := g.Base()
	at, last := g.Last()
	if base != 10 || term != 3 || g.Len() != 12 || at != 12 || last != 4 {
		t.Error(base, term, at, last)
	}
	if g.Term(10) != 3 || g.Term(9) != 0 || g.Term(13) != 0 || g.Term(-1) != 0 || g.Term(12) != 4 {
		t.Error("terms")
	}
	g = rlog.New(-4, -1, nil)
	base, term = g.Base()
	at, last = g.Last()
	if base != 0 || term != 0 || at != 0 || last != 0 {
		t.Error("below 0 as 0")
	}
	if g := rlog.New(0, 0, of(make([]int, 0)...)); g.Len() != 0 {
		t.Error("empty")
	}
	long := make([]int, api.MostLog+5)
	for i := range long {
		long[i] = 1
	}
	g = rlog.New(0, 0, of(long...))
	if _, ok := g.Add(of(1)[0]); g.Len() != api.MostLog || ok {
		t.Error("at most MostLog", g.Len())
	}
	if at, ok := g.Append(299, 1, of(1, 1, 1)); at != 300 || !ok {
		t.Error("no room any more: the last one", at, ok)
	}
	if at, ok := g.Append(290, 1, of(1, 2, 2)); at != 293 || !ok {
		t.Error("what goes makes room", at, ok)
	}
	rlog.New(math.MaxInt, 0, of(1, 1)).Term(math.MinInt)
}

func TestFromAdd(t *testing.T) {
	g := rlog.New(2, 1, of(1, 2, 3))
	if l := g.From(4, 9); len(l) != 2 || l[0].Term != 2 {
		t.Error(l)
	}
	for _, c := range [][3]int{{3, 2, 2}, {5, 1, 1}, {2, 9, 0}, {6, 9, 0}, {3, 0, 0}, {3, -1, 0}, {math.MinInt, 9, 0}} {
		if l := g.From(c[0], c[1]); len(l) != c[2] {
			t.Error(c, l)
		}
	}
	if at, ok := g.Add(api.Entry{Term: 3}); at != 6 || !ok {
		t.Error(at)
	}
	if at, ok := g.Add(api.Entry{}); at != 0 || ok {
		t.Error("it may not be")
	}
	e := api.Entry{Term: 4, Cmd: api.Cmd{Kind: api.CmdPrepare, Conf: api.Conf{By: 5, Count: 1, Chain: []int{1}}}}
	g.Add(e)
	e.Cmd.Conf.Chain[0] = 2
	got := g.From(7, 1)
	got[0].Cmd.Conf.Chain[0] = 3
	if g.From(7, 1)[0].Cmd.Conf.Chain[0] != 1 {
		t.Error("shared")
	}
}

func TestAppend(t *testing.T) {
	g := rlog.New(0, 0, nil)
	if at, ok := g.Append(0, 0, of(1)); at != 1 || !ok {
		t.Error(at, ok)
	}
	if at, ok := g.Append(1, 1, of(1, 2)); at != 3 || !ok {
		t.Error(at, ok)
	}
	want(t, g, 1, 1, 2)
	for _, c := range [][2]int{{-1, 0}, {4, 0}, {4, 2}, {3, 1}, {0, 1}, {math.MaxInt, 0}} {
		if at, ok := g.Append(c[0], c[1], of(9)); at != 0 || ok {
			t.Error(c, at, ok)
		}
	}
	want(t, g, 1, 1, 2)
	if at, ok := g.Append(1, 1, of(1)); at != 2 || !ok {
		t.Error("what is there stays", at)
	}
	want(t, g, 1, 1, 2)
	if at, ok := g.Append(1, 1, of(3)); at != 2 || !ok {
		t.Error("of another term", at)
	}
	want(t, g, 1, 3)
	if at, ok := g.Append(2, 3, nil); at != 2 || !ok {
		t.Error("nothing behind", at)
	}
	if at, ok := g.Append(2, 3, []api.Entry{{Term: 3}, {}, {Term: 3}}); at != 3 || !ok {
		t.Error("up to one that may not be", at)
	}
}

func TestAppendBelowBase(t *testing.T) {
	g := rlog.New(10, 2, of(2, 3))
	if at, ok := g.Append(7, 1, of(1, 1, 2)); at != 10 || !ok {
		t.Error("all are up to the base", at, ok)
	}
	if at, ok := g.Append(7, 99, of(1, 1, 2, 2)); at != 11 || !ok {
		t.Error(at, ok)
	}
	want(t, g, 2, 3)
	if at, ok := g.Append(7, 1, of(1, 1, 2, 4)); at != 11 || !ok {
		t.Error(at, ok)
	}
	want(t, g, 4)
	if at, ok := g.Append(10, 1, of(5)); at != 0 || ok {
		t.Error("the base has another term", at, ok)
	}
	if at, ok := g.Append(10, 2, of(4, 5)); at != 12 || !ok {
		t.Error("behind the base", at, ok)
	}
	if at, ok := g.Append(0, 0, nil); at != 10 || !ok {
		t.Error("nothing, far below", at, ok)
	}
}

func TestCutReset(t *testing.T) {
	g := rlog.New(2, 1, of(1, 2, 3))
	if g.Cut(2) || g.Cut(6) || g.Cut(-1) || !g.Cut(4) || g.Cut(4) {
		t.Error("cut")
	}
	want(t, g, 3)
	if base, term := g.Base(); base != 4 || term != 2 || g.Term(3) != 0 || g.Term(4) != 2 {
		t.Error(base, term)
	}
	if !g.Cut(5) {
		t.Error("the last one")
	}
	want(t, g)
	if at, term := g.Last(); at != 5 || term != 3 {
		t.Error(at, term)
	}
	g.Add(api.Entry{Term: 4})
	g.Reset(9, 7)
	if at, term := g.Last(); at != 9 || term != 7 || g.From(6, 9) != nil {
		t.Error("reset")
	}
}

func TestHasNewer(t *testing.T) {
	g := rlog.New(2, 1, append(of(1, 2), of(3)...))
	for epoch, place := range []int{0, 3, 4, 0} {
		if got := g.Has(api.Cmd{Kind: api.CmdActivate, Conf: api.Conf{Epoch: epoch}}); got != place {
			t.Error(epoch, got)
		}
	}
	for _, c := range []struct {
		at, term int
		want     bool
	}{{5, 3, true}, {4, 3, false}, {6, 3, true}, {99, 2, false}, {0, 4, true}} {
		if g.Newer(c.at, c.term) != c.want {
			t.Error(c)
		}
	}
	if !entry.Same(g.From(5, 1)[0], of(3)[0]) {
		t.Error("the entry")
	}
}

func TestNone(t *testing.T) {
	var g *rlog.Log
	g.Reset(1, 1)
	base, term := g.Base()
	at, last := g.Last()
	place, ok := g.Add(api.Entry{Term: 1})
	up, there := g.Append(0, 0, nil)
	if base+term+at+last+place+up != 0 || ok || there || g.Len() != 0 || g.Term(0) != 0 || g.From(1, 1) != nil || g.Cut(1) || g.Has(api.Cmd{}) != 0 || g.Newer(9, 9) {
		t.Error("of none")
	}
}
