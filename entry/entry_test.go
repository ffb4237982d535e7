package entry_test

import (
	"testing"

	"tarn/api"
	"tarn/decide"
	"tarn/entry"
	"tarn/num"
)

func wish(term int) api.Entry {
	return api.Entry{Term: term, Cmd: api.Cmd{Kind: api.CmdPrepare, Conf: api.Conf{By: 5, Count: 1, Mirrors: []int{3}, Chain: []int{0, 1}}}}
}

func TestMayPut(t *testing.T) {
	for _, c := range []struct {
		e    api.Entry
		want bool
	}{
		{wish(1), true}, {wish(api.MostTerm), true}, {api.Entry{Term: 1}, true}, {wish(0), false}, {wish(-1), false}, {wish(api.MostTerm + 1), false},
		{api.Entry{Term: 1, Cmd: api.Cmd{Kind: 9}}, false},
	} {
		if entry.May(c.e) != c.want || (entry.Put(c.e) != "") != c.want {
			t.Error(c)
		}
	}
	if entry.Put(wish(300)) != "\x02\x01\x2c"+decide.Put(wish(300).Cmd) {
		t.Error("as bytes")
	}
}

func TestGetTake(t *testing.T) {
	for _, e := range []api.Entry{wish(7), {Term: 1}, {Term: 2, Cmd: api.Cmd{Kind: api.CmdActivate, Conf: api.Conf{Epoch: 4}}}} {
		if got, err := entry.Get(entry.Put(e)); !entry.Same(got, e) || err != api.OK {
			t.Error(e, got, err)
		}
	}
	s := num.From(entry.Put(wish(7)) + "x")
	if got := entry.Take(s); !entry.Same(got, wish(7)) || s.Left() != 1 {
		t.Error("taken", got)
	}
	p := entry.Put(wish(7))
	for b, want := range map[string]api.Errno{"": api.ErrShort, p[:len(p)-1]: api.ErrShort, p + "x": api.ErrForm, "\x00" + p[2:]: api.ErrForm, num.Put(api.MostTerm+1) + p[2:]: api.ErrForm} {
		if got, err := entry.Get(b); !entry.Same(got, api.Entry{}) || err != want {
			t.Errorf("%x: %d, not %d", b, err, want)
		}
	}
}

func TestSameEqualCmds(t *testing.T) {
	other := wish(1)
	other.Cmd.Conf.Chain = []int{1, 0}
	if entry.Same(wish(1), wish(2)) || entry.Same(wish(1), other) || entry.Same(wish(1), api.Entry{Term: 1}) || !entry.Same(other, other) {
		t.Error("same")
	}
	a := []api.Entry{wish(1), other}
	if !entry.Equal(a, []api.Entry{wish(1), other}) || entry.Equal(a, a[:1]) || entry.Equal(a, []api.Entry{other, wish(1)}) || !entry.Equal(nil, []api.Entry{}) {
		t.Error("equal")
	}
	cmds := entry.Cmds(a)
	cmds[0].Conf.Chain[0] = 4
	if len(cmds) != 2 || a[0].Cmd.Conf.Chain[0] != 0 || cmds[1].Conf.Chain[0] != 1 || entry.Cmds(nil) != nil {
		t.Error("commands")
	}
}
