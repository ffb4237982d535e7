package trace_test

import (
	"reflect"
	"strings"
	"testing"

	"tarn/api"
	"tarn/frame"
	"tarn/num"
	"tarn/sched"
	"tarn/trace"
)

func full() api.Act {
	return api.Act{
		What: 1, Who: 2, A: 3, B: 1 << 30, Ask: api.Ask{What: 5, At: 6, Len: 7, Data: "data", Sure: true},
		Mirrors: []int{4, 4, 0}, Chain: []int{1}, S: "junk",
	}
}

func TestMay(t *testing.T) {
	long := strings.Repeat("x", api.MostTrace/2)
	for i, f := range []func(*api.Act){
		func(a *api.Act) { a.What = -1 }, func(a *api.Act) { a.Who = 1<<30 + 1 }, func(a *api.Act) { a.A = -1 }, func(a *api.Act) { a.B = 1<<30 + 1 },
		func(a *api.Act) { a.Ask.What = -1 }, func(a *api.Act) { a.Ask.At = -32 }, func(a *api.Act) { a.Ask.Len = 1 << 40 }, func(a *api.Act) { a.Mirrors = []int{5} },
		func(a *api.Act) { a.Chain = []int{-1} }, func(a *api.Act) { a.Chain = []int{0, 1, 2, 3} }, func(a *api.Act) { a.S = long }, func(a *api.Act) { a.Ask.Data = long + "x" },
	} {
		a := full()
		f(&a)
		if trace.May(a) || trace.Put(a) != "" {
			t.Error(i)
		}
	}
	most := full()
	most.S = long[4:]
	for _, a := range []api.Act{{}, full(), {S: long}, {Ask: api.Ask{Data: long}}, most} {
		got, e := trace.Get(trace.Put(a))
		if !trace.May(a) || e != api.OK || !reflect.DeepEqual(got, a) {
			t.Error(got, e)
		}
	}
}

func TestAsBytes(t *testing.T) {
	want := frame.Put(num.List([]int{1, 2, 3, 1 << 30, 5, 6, 7}) + "y" + num.Text("data") + num.List([]int{4, 4, 0}) + num.List([]int{1}) + num.Text("junk"))
	if got := trace.Put(full()); got != want {
		t.Errorf("%x", got)
	}
}

func TestGetRefuses(t *testing.T) {
	f := trace.Put(full())
	body, _ := frame.Get(f)
	long := num.Text(strings.Repeat("x", api.MostTrace/2))
	for i, c := range []struct {
		s    string
		want api.Errno
	}{
		{"", api.ErrShort}, {f[:9], api.ErrShort}, {f[:len(f)-1] + "\x00", api.ErrCheck}, {f + "x", api.ErrForm}, {frame.Put(""), api.ErrShort}, {frame.Put(body[:9]), api.ErrShort},
		{frame.Put(body + "x"), api.ErrForm}, {frame.Put(num.List([]int{1, 2})), api.ErrForm}, {frame.Put(strings.Replace(body, "y", "z", 1)), api.ErrForm},
		{frame.Put(num.List([]int{1<<30 + 1, 0, 0, 0, 0, 0, 0}) + "n\x00\x00\x00\x00"), api.ErrForm}, {frame.Put(num.List(make([]int, 7)) + "n\x00" + num.List([]int{5}) + "\x00\x00"), api.ErrForm},
		{frame.Put(num.List(make([]int, 7)) + "n" + long + "\x00\x00" + num.Text("x")), api.ErrForm}, {frame.Put(num.List(make([]int, 8)) + "n\x00\x00\x00\x00"), api.ErrForm},
	} {
		if a, e := trace.Get(c.s); e != c.want || !reflect.DeepEqual(a, api.Act{}) {
			t.Error(i, e, c.want)
		}
	}
}

func TestAllActs(t *testing.T) {
	l := sched.New(1, sched.Even()).Acts(300, 8)
	s := trace.All(l)
	got, n := trace.Acts(s)
	if n != len(s) || !reflect.DeepEqual(got, l) {
		t.Error(len(got), n)
	}
	if trace.All([]api.Act{{A: -1}, full(), {B: -1}}) != trace.Put(full()) {
		t.Error("those that may be")
	}
	one := trace.Put(full())
	for _, tail := range []string{"x", one[:7], frame.Put("no act"), frame.Put("no act") + one} {
		if got, n := trace.Acts(one + one + tail); len(got) != 2 || n != 2*len(one) {
			t.Errorf("%q: %d %d", tail, len(got), n)
		}
	}
	if got, n := trace.Acts(""); got != nil || n != 0 {
		t.Error("of nothing")
	}
}
