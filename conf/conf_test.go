package conf_test

import (
	"math"
	"slices"
	"testing"

	"tarn/api"
	"tarn/conf"
	"tarn/num"
)

func good() api.Conf {
	return api.Conf{Epoch: 3, By: 5, Count: 7, Mirrors: []int{1, 2}, Chain: []int{3, 1, 0}}
}

func TestNodeGate(t *testing.T) {
	for n := -2; n < 10; n++ {
		if conf.Node(n) != (n >= 0 && n <= 4) || conf.Gate(n) != (n == 5 || n == 6) {
			t.Error(n)
		}
	}
	if conf.Node(math.MaxInt) || conf.Gate(math.MinInt) {
		t.Error("far off")
	}
}

func TestLists(t *testing.T) {
	for _, c := range []struct {
		mirrors, chain []int
		want           bool
	}{
		{nil, []int{0}, true}, {[]int{1, 2, 3}, []int{1, 2, 3}, true}, {nil, nil, false}, {[]int{1}, []int{}, false},
		{[]int{1, 1}, []int{0}, false}, {nil, []int{0, 4, 0}, false}, {[]int{0, 1, 2, 3}, []int{0}, false}, {nil, []int{0, 1, 2, 3}, false},
		{[]int{5}, []int{0}, false}, {nil, []int{-1}, false},
	} {
		if conf.Lists(c.mirrors, c.chain) != c.want {
			t.Error(c)
		}
	}
}

// wrong is configurations that may not be.
func wrong() []api.Conf {
	var l []api.Conf
	for _, f := range []func(*api.Conf){
		func(c *api.Conf) { c.Epoch = -1 }, func(c *api.Conf) { c.Epoch = api.MostEpoch + 1 }, func(c *api.Conf) { c.By = 4 },
		func(c *api.Conf) { c.By = 7 }, func(c *api.Conf) { c.Count = 0 }, func(c *api.Conf) { c.Count = api.MostCount + 1 },
		func(c *api.Conf) { c.Chain = nil }, func(c *api.Conf) { c.Mirrors = []int{1, 1} },
	} {
		c := good()
		f(&c)
		l = append(l, c)
	}
	return append(l, api.Conf{Epoch: 1}, api.Conf{By: 5, Count: 1}, api.Conf{Chain: []int{0}})
}

func TestMayNoneSame(t *testing.T) {
	empty := api.Conf{Mirrors: []int{}, Chain: []int{}}
	if !conf.None(api.Conf{}) || !conf.None(empty) || conf.None(good()) || !conf.May(empty) || !conf.May(good()) || !conf.Same(empty, api.Conf{}) {
		t.Error("none and good")
	}
	c := good()
	c.Epoch, c.Count = 0, api.MostCount
	if !conf.May(c) || conf.None(c) {
		t.Error("of epoch 0")
	}
	c.Epoch = api.MostEpoch
	if !conf.May(c) {
		t.Error("MostEpoch")
	}
	if !conf.Same(good(), good()) {
		t.Error("same")
	}
	for _, c := range wrong() {
		if conf.May(c) || conf.None(c) || conf.Same(c, good()) {
			t.Error(c)
		}
	}
}

func TestWhoDoesWhat(t *testing.T) {
	c := good()
	if !slices.Equal(conf.All(c), []int{0, 1, 2, 3}) || conf.All(api.Conf{}) != nil {
		t.Error(conf.All(c))
	}
	if !conf.Mirrors(c, 2) || conf.Mirrors(c, 3) || !conf.Chains(c, 0) || conf.Chains(c, 2) {
		t.Error("mirrors and chain")
	}
	for n, want := range []int{-1, 0, -1, 1, -1, -1} {
		if conf.Behind(c, n) != want {
			t.Error(n, conf.Behind(c, n))
		}
	}
	if conf.Behind(api.Conf{}, -1) != -1 {
		t.Error("none")
	}
}

func TestPutTake(t *testing.T) {
	for _, c := range []api.Conf{{}, good(), {By: 6, Count: 1, Chain: []int{4}}} {
		s := num.From(conf.Put(c))
		if got := conf.Take(s); !conf.Same(got, c) || s.End() != api.OK {
			t.Error(c, got)
		}
	}
	if conf.Put(good()) != num.List([]int{3, 5, 7})+num.List([]int{1, 2})+num.List([]int{3, 1, 0}) {
		t.Error("as bytes")
	}
	for _, c := range append(wrong()[1:], api.Conf{Epoch: 1, By: 5, Count: 1, Chain: []int{6}}, api.Conf{Epoch: 1, By: 5, Count: 1, Chain: []int{5}}) {
		s := num.From(conf.Put(c))
		if got := conf.Take(s); !conf.None(got) || s.Err() != api.ErrForm {
			t.Error(c, got, s.Err())
		}
	}
	for s, want := range map[string]api.Errno{
		"": api.ErrShort, conf.Put(good())[:9]: api.ErrShort, num.List([]int{0, 0}) + "\x00\x00": api.ErrForm, num.List([]int{0, 0, 0, 0}) + "\x00\x00": api.ErrForm,
	} {
		src := num.From(s)
		if got := conf.Take(src); !conf.None(got) || src.Err() != want {
			t.Errorf("%x: %d", s, src.Err())
		}
	}
	if !conf.None(conf.Take(nil)) {
		t.Error("of no source")
	}
}
