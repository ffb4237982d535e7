package net_test

import (
	"math"
	"slices"
	"strconv"
	"testing"

	"tarn/api"
	"tarn/msg"
	"tarn/net"
)

func vote(term int) api.Msg { return api.Msg{Kind: api.MsgVote, From: 1, To: 2, Term: term} }

func TestSendTake(t *testing.T) {
	n := net.New()
	for term := range 5 {
		if !n.Send(vote(term)) {
			t.Error(term)
		}
	}
	if n.Send(api.Msg{}) || n.Len() != 5 {
		t.Error("a message that may not be")
	}
	for _, c := range []struct{ i, term int }{{1, 1}, {-1, 4}, {3, 0}, {-5, 3}, {math.MaxInt, 2}} {
		if m, ok := n.Take(c.i); !ok || !msg.Same(m, vote(c.term)) {
			t.Error(c, m)
		}
	}
	if _, ok := n.Take(0); ok || n.Drop(0) || n.Double(0) {
		t.Error("there is none")
	}
}

func TestRaw(t *testing.T) {
	n := net.New()
	n.Raw("junk")
	n.Raw("")
	if m, ok := n.Take(1); ok || !msg.Same(m, api.Msg{}) || n.Len() != 1 {
		t.Error("gone all the same")
	}
	for i := range api.MostNet {
		n.Raw(strconv.Itoa(i))
	}
	all := n.All()
	if n.Len() != api.MostNet || n.Lost() != 1 || all[0] != "0" {
		t.Error("the eldest is lost", n.Len(), n.Lost(), all[0])
	}
	all[0] = "x"
	if n.All()[0] != "0" {
		t.Error("the list is the caller's own")
	}
	if !n.Double(0) || n.Lost() != 2 || n.All()[0] != "1" || n.All()[api.MostNet-1] != "0" {
		t.Error("doubled, where there is no room")
	}
	n.Clear()
	if n.Len() != 0 || n.Lost() != 2 || n.All() != nil {
		t.Error("all lost")
	}
}

func TestDropDouble(t *testing.T) {
	n := net.New()
	for _, s := range []string{"a", "b", "c"} {
		n.Raw(s)
	}
	if !n.Double(-3) || !slices.Equal(n.All(), []string{"a", "b", "c", "a"}) {
		t.Error("behind all others", n.All())
	}
	if !n.Drop(5) || !slices.Equal(n.All(), []string{"a", "c", "a"}) || n.Lost() != 0 || !n.Drop(math.MinInt) {
		t.Error("lost", n.All())
	}
}

func TestNone(t *testing.T) {
	var n *net.Net
	n.Raw("a")
	n.Clear()
	_, ok := n.Take(0)
	if n.Send(vote(1)) || n.Len() != 0 || n.Lost() != 0 || ok || n.Drop(0) || n.Double(0) || n.All() != nil {
		t.Error("of none")
	}
}
