package lead_test

import (
	"testing"

	"tarn/api"
	"tarn/lead"
	"tarn/rlog"
)

func log(terms ...int) *rlog.Log {
	g := rlog.New(0, 0, nil)
	for _, t := range terms {
		g.Add(api.Entry{Term: t})
	}
	return g
}

func TestYesNo(t *testing.T) {
	x := lead.New(5)
	for who := range api.Voters {
		if x.Next(who) != 6 || x.Match(who) != 0 {
			t.Error(who)
		}
	}
	x.No(1)
	x.No(1)
	if x.Next(1) != 4 || x.Next(0) != 6 {
		t.Error("one less", x.Next(1))
	}
	x.Yes(1, 2)
	if x.Match(1) != 2 || x.Next(1) != 4 {
		t.Error("next stays, where it is more", x.Next(1))
	}
	x.Yes(1, 7)
	x.Yes(1, 3)
	if x.Match(1) != 7 || x.Next(1) != 8 {
		t.Error("never back", x.Match(1), x.Next(1))
	}
	x.No(1)
	if x.Next(1) != 8 {
		t.Error("above match")
	}
	for range 20 {
		x.No(2)
	}
	if x.Next(2) != 1 {
		t.Error("not below the first place", x.Next(2))
	}
	for _, who := range []int{-1, 3} {
		x.Yes(who, 9)
		x.No(who)
		if x.Next(who) != 0 || x.Match(who) != 0 {
			t.Error("no such voter")
		}
	}
}

func TestDecided(t *testing.T) {
	g := log(1, 1, 2, 2, 3)
	x := lead.New(0)
	x.Yes(0, 5)
	x.Yes(1, 3)
	for _, c := range [][3]int{{2, 0, 3}, {2, 2, 3}, {2, 3, 3}, {2, 4, 4}, {1, 0, 0}, {3, 1, 1}, {0, 0, 0}} {
		if got := x.Decided(g, c[0], c[1]); got != c[2] {
			t.Error(c, got)
		}
	}
	x.Yes(2, 9)
	if x.Decided(g, 3, 0) != 5 || x.Decided(nil, 3, 1) != 1 {
		t.Error("what most have")
	}
	x.Yes(0, 8)
	if x.Decided(g, 0, 2) != 2 || x.Decided(g, 3, 2) != 2 {
		t.Error("no entry there")
	}
	one := lead.New(5)
	one.Yes(0, 5)
	if one.Decided(g, 3, 0) != 0 {
		t.Error("one of three")
	}
	var none *lead.Lead
	none.Yes(0, 1)
	none.No(0)
	if none.Decided(g, 3, 4) != 4 || none.Next(0) != 0 || none.Match(0) != 0 {
		t.Error("of none")
	}
}
