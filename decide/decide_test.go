package decide_test

import (
	"testing"

	"tarn/api"
	"tarn/conf"
	"tarn/decide"
	"tarn/num"
)

func wish(by, count int) api.Cmd {
	return api.Cmd{Kind: api.CmdPrepare, Conf: api.Conf{By: by, Count: count, Mirrors: []int{3, 4}, Chain: []int{0, 1}}}
}

func activate(epoch int) api.Cmd {
	return api.Cmd{Kind: api.CmdActivate, Conf: api.Conf{Epoch: epoch}}
}

func TestMay(t *testing.T) {
	with := func(c api.Cmd, f func(*api.Cmd)) api.Cmd { f(&c); return c }
	for i, c := range []api.Cmd{{}, wish(5, 1), wish(6, api.MostCount), activate(1), activate(api.MostEpoch)} {
		if !decide.May(c) {
			t.Error("may", i)
		}
	}
	for i, c := range []api.Cmd{
		{Kind: 3}, {Kind: -1}, {Conf: api.Conf{Epoch: 1}}, {Kind: api.CmdPrepare}, activate(0), activate(-1), activate(api.MostEpoch + 1), wish(4, 1), wish(5, 0),
		with(wish(5, 1), func(c *api.Cmd) { c.Conf.Epoch = 1 }), with(activate(1), func(c *api.Cmd) { c.Conf.By = 5 }),
		with(activate(1), func(c *api.Cmd) { c.Conf.Chain = []int{0} }), with(wish(5, 1), func(c *api.Cmd) { c.Kind = api.CmdActivate }),
	} {
		if decide.May(c) {
			t.Error("may not", i)
		}
	}
}

func TestPrepareActivate(t *testing.T) {
	s := decide.All(api.State{}, []api.Cmd{wish(5, 1), activate(1)})
	want := wish(5, 1).Conf
	want.Epoch = 1
	if s.Epoch != 1 || !conf.Same(s.Active, want) || !conf.Same(s.Next, want) || s.Seen != [api.Gates]int{1, 0} {
		t.Error(s)
	}
	for _, c := range []api.Cmd{wish(5, 1), activate(2), {}, {Kind: 7}, wish(5, 0), activate(1)} {
		if !decide.Same(decide.Do(s, c), s) {
			t.Error("changes nothing", c)
		}
	}
	two := decide.Do(s, wish(6, 9))
	if two.Epoch != 2 || two.Next.Epoch != 2 || two.Next.By != 6 || two.Active.Epoch != 1 || two.Seen != [api.Gates]int{1, 9} {
		t.Error(two)
	}
	three := decide.All(two, []api.Cmd{wish(5, 2), activate(2)})
	if three.Epoch != 3 || three.Active.Epoch != 1 {
		t.Error("an epoch that is not the newest one", three)
	}
	most := api.State{Epoch: api.MostEpoch}
	if !decide.Same(decide.Do(most, wish(5, 1)), most) {
		t.Error("epochs are used up")
	}
	if s := decide.Do(api.State{Epoch: api.MostEpoch - 1}, wish(5, 1)); s.Epoch != api.MostEpoch {
		t.Error("the last epoch")
	}
}

func TestNothingIsShared(t *testing.T) {
	c := wish(5, 1)
	s := decide.Do(api.State{}, c)
	c.Conf.Chain[0] = 4
	if s.Next.Chain[0] != 0 {
		t.Error("the command's list")
	}
	a := decide.Do(s, activate(1))
	a.Next.Chain[0] = 3
	if a.Active.Chain[0] != 0 || s.Next.Chain[0] != 0 {
		t.Error("the states' lists")
	}
	b := decide.All(s, nil)
	b.Next.Mirrors[0] = 0
	if s.Next.Mirrors[0] != 3 || s.Seen != b.Seen {
		t.Error("behind nothing")
	}
}

func TestSame(t *testing.T) {
	s := decide.All(api.State{}, []api.Cmd{wish(5, 1), activate(1), wish(6, 1)})
	if !decide.Same(s, s) {
		t.Error("same")
	}
	for i, f := range []func(*api.State){
		func(s *api.State) { s.Epoch++ }, func(s *api.State) { s.Active.Count++ }, func(s *api.State) { s.Next.Chain = []int{0} }, func(s *api.State) { s.Seen[1]++ },
	} {
		other := s
		f(&other)
		if decide.Same(s, other) {
			t.Error(i)
		}
	}
}

func TestAsBytes(t *testing.T) {
	for _, c := range []api.Cmd{{}, wish(5, 1), activate(300)} {
		s := num.From(decide.Put(c))
		if got := decide.Take(s); got.Kind != c.Kind || !conf.Same(got.Conf, c.Conf) || s.End() != api.OK {
			t.Error(c, got)
		}
	}
	if decide.Put(activate(300)) != "\x01\x02\x02\x01\x2c" || decide.Put(wish(5, 1)) != "\x01\x01"+conf.Put(wish(5, 1).Conf) {
		t.Error("commands")
	}
	for s, want := range map[string]api.Errno{
		"": api.ErrShort, "\x01\x03": api.ErrForm, "\x01\x02": api.ErrShort, "\x01\x02\x00": api.ErrForm, "\x01\x01" + conf.Put(api.Conf{}): api.ErrForm,
		"\x00" + conf.Put(wish(5, 1).Conf): api.ErrForm, "\x01\x02" + num.Put(api.MostEpoch+1): api.ErrForm,
	} {
		src := num.From(s)
		if got := decide.Take(src); got.Kind != 0 || !conf.None(got.Conf) || src.Err() != want {
			t.Errorf("%x: %d, not %d", s, src.Err(), want)
		}
	}
}

func TestStatesAsBytes(t *testing.T) {
	full := decide.All(api.State{}, []api.Cmd{wish(5, 1), activate(1), wish(6, 4)})
	for _, st := range []api.State{{}, full} {
		s := num.From(decide.PutState(st))
		if got := decide.TakeState(s); !decide.Same(got, st) || s.End() != api.OK {
			t.Error(st, got)
		}
	}
	if decide.PutState(full) != "\x01\x02"+conf.Put(full.Active)+conf.Put(full.Next)+num.List([]int{1, 4}) {
		t.Error("states")
	}
	none := conf.Put(api.Conf{})
	for s, want := range map[string]api.Errno{
		"": api.ErrShort, "\x00" + none + none: api.ErrShort, "\x00" + none + none + num.List([]int{1}): api.ErrForm,
		"\x00" + none + none + num.List([]int{1, 2, 3}): api.ErrForm, "\x00" + none + none + num.List([]int{1, api.MostCount + 1}): api.ErrForm,
		num.Put(api.MostEpoch+1) + none + none + num.List([]int{1, 2}): api.ErrForm,
	} {
		src := num.From(s)
		if got := decide.TakeState(src); !decide.Same(got, api.State{}) || src.Err() != want {
			t.Errorf("%x: %d, not %d", s, src.Err(), want)
		}
	}
}
