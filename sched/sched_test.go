package sched_test

import (
	"math"
	"reflect"
	"testing"

	"tarn/api"
	"tarn/sched"
)

// draws is the numbers that a rule tells, one behind the other.
type draws uint64

func (d *draws) below(n int) int {
	*d = *d*6364136223846793005 + 1442695040888963407
	return int(*d>>33) % n
}

func only(kind int) api.Weights {
	var w api.Weights
	w[kind] = 1
	return w
}

func TestBelow(t *testing.T) {
	s, d := sched.New(7, api.Weights{}), draws(7)
	for n := 1; n < 3000; n += 7 {
		if got := s.Below(n); got != d.below(n) {
			t.Fatal(n, got)
		}
	}
	if s.Below(0) != 0 || s.Below(-1) != 0 || s.Below(math.MinInt) != 0 || s.Below(1000) != d.below(1000) {
		t.Error("no number is drawn then")
	}
}

func letters(d *draws) string {
	s := ""
	for range 32 {
		s += string(rune('a' + d.below(26)))
	}
	return s
}

func list(first, many int) []int {
	var l []int
	for i := range many {
		l = append(l, (first+i)%5)
	}
	return l
}

// want draws an act of a kind as the chapter tells.
func want(d *draws, kind, blocks int) api.Act {
	d.below(1)
	a := api.Act{What: kind}
	switch kind {
	case api.ActAsk:
		a.Who = 5 + d.below(2)
		a.Ask = api.Ask{What: d.below(4), At: 32 * d.below(blocks), Len: 32, Sure: d.below(8) == 0}
		if a.Ask.What == api.AskWrite {
			a.Ask.Len, a.Ask.Data = 0, letters(d)
		}
	case api.ActTake:
		a.Who = 5 + d.below(2)
		a.Mirrors = list(d.below(5), d.below(4))
		a.Chain = list(d.below(5), 1+d.below(3))
	case api.ActSettle:
		a.Who, a.A = 5+d.below(2), d.below(64)
	case api.ActDeliver, api.ActDrop, api.ActDouble:
		a.A = d.below(400)
	case api.ActJunk:
		s := letters(d)
		a.S = s[:d.below(8)]
	case api.ActCrash:
		a.Who, a.A, a.B = d.below(7), d.below(4), d.below(1<<30)
	case api.ActTick, api.ActStart:
		a.Who = d.below(7)
	default:
		a.Who = d.below(5)
	}
	return a
}

func TestAct(t *testing.T) {
	for kind := range 12 {
		s, d := sched.New(uint64(kind), only(kind)), draws(kind)
		for range 50 {
			got, ok := s.Act(8)
			if w := want(&d, kind, 8); !ok || !reflect.DeepEqual(got, w) {
				t.Fatalf("%+v, not %+v", got, w)
			}
		}
	}
	if a, ok := sched.New(1, only(api.ActAsk)).Act(0); !ok || a.Ask.At != 0 {
		t.Error("of no blocks", a)
	}
}

func TestWeights(t *testing.T) {
	if a, ok := sched.New(1, api.Weights{}).Act(8); ok || !reflect.DeepEqual(a, api.Act{}) {
		t.Error("all weights are 0")
	}
	w := api.Weights{api.ActTick: 3000, api.ActSync: 1000, api.ActDrop: -5}
	s, d := sched.New(9, w), draws(9)
	for range 200 {
		kind := api.ActTick
		if d.below(2000) >= 1000 {
			kind = api.ActSync
		}
		who := 0
		if kind == api.ActTick {
			who = d.below(7)
		} else {
			who = d.below(5)
		}
		if a, _ := s.Act(8); a.What != kind || a.Who != who {
			t.Fatal(a)
		}
	}
}

func TestActsEven(t *testing.T) {
	s := sched.New(5, sched.Even())
	many := map[int]int{}
	for range 3 {
		for _, a := range s.Acts(api.MostEvents+9, 8) {
			many[a.What]++
		}
	}
	sum := 0
	for kind := range 12 {
		sum += many[kind]
		if many[kind] == 0 || many[kind] > many[api.ActDeliver] {
			t.Error(kind, many[kind])
		}
	}
	if sum != 3*api.MostEvents {
		t.Error("MostEvents at most", sum)
	}
	a, b := sched.New(5, sched.Even()), sched.New(5, sched.Even())
	l := a.Acts(20, 8)
	for i := range l {
		if x, _ := b.Act(8); !reflect.DeepEqual(x, l[i]) {
			t.Fatal(i)
		}
	}
	if a.Acts(-1, 8) != nil || a.Acts(0, 8) != nil || sched.New(5, api.Weights{}).Acts(9, 8) != nil {
		t.Error("none")
	}
}

func TestNone(t *testing.T) {
	var s *sched.Sched
	a, ok := s.Act(8)
	if s.Below(9) != 0 || ok || !reflect.DeepEqual(a, api.Act{}) || s.Acts(9, 9) != nil {
		t.Error("of none")
	}
}
