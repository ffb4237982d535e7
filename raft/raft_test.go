package raft_test

import (
	"math"
	"testing"

	"tarn/api"
	"tarn/decide"
	"tarn/entry"
	"tarn/raft"
)

func fresh(id int) *raft.Raft { return raft.New(id, raft.Kept{Voted: -1}) }

func ticks(r *raft.Raft, n int) {
	for range n {
		r.Tick()
	}
}

func wish(count int) api.Cmd {
	return api.Cmd{Kind: api.CmdPrepare, Conf: api.Conf{By: 5, Count: count, Mirrors: []int{3}, Chain: []int{0}}}
}

// leader is the voter 0, that leads in the term 1, with what it said taken.
func leader(t *testing.T) *raft.Raft {
	t.Helper()
	r := fresh(0)
	ticks(r, 4)
	r.Step(api.Msg{Kind: api.MsgVoted, From: 1, To: 0, Term: 1, Yes: true})
	if r.Role() != api.RoleLeads {
		t.Fatal("it leads")
	}
	r.Out()
	return r
}

func TestNew(t *testing.T) {
	for i, k := range []raft.Kept{
		{Term: -1, Voted: -1}, {Term: api.MostTerm + 1, Voted: -1}, {Voted: -2}, {Voted: 3}, {Voted: -1, Snap: api.Snap{At: -1}},
		{Voted: -1, Snap: api.Snap{Term: -1}}, {Term: 3, Voted: -1, Snap: api.Snap{Term: 4}},
	} {
		if raft.New(0, k) != nil {
			t.Error(i)
		}
	}
	if raft.New(-1, raft.Kept{Voted: -1}) != nil || raft.New(3, raft.Kept{Voted: -1}) != nil {
		t.Error("no such voter")
	}
	k := raft.Kept{Term: 5, Voted: 2, Snap: api.Snap{At: 7, Term: 3, State: decide.Do(api.State{}, wish(1))}, Log: []api.Entry{{Term: 4}, {Term: 5, Cmd: wish(2)}, {}}}
	r := raft.New(1, k)
	if r.Term() != 5 || r.Voted() != 2 || r.Role() != api.RoleFollows || r.Done() != 7 || !decide.Same(r.State(), k.Snap.State) || r.Log().Len() != 9 {
		t.Error("as kept")
	}
	got := r.Keep()
	if got.Term != 5 || got.Voted != 2 || got.Snap.At != 7 || got.Snap.Term != 3 || !decide.Same(got.Snap.State, k.Snap.State) || !entry.Equal(got.Log, k.Log[:2]) {
		t.Error("Keep", got)
	}
	got.Snap.State.Next.Chain[0] = 4
	k.Snap.State.Next.Chain[0] = 4
	if r.Keep().Snap.State.Next.Chain[0] != 0 || r.State().Next.Chain[0] != 0 {
		t.Error("shared")
	}
}

func TestAsks(t *testing.T) {
	for id := range api.Voters {
		r := fresh(id)
		ticks(r, 3+3*id)
		if r.Role() != api.RoleFollows || r.Out() != nil {
			t.Error("patient", id)
		}
		r.Tick()
		out := r.Out()
		if r.Role() != api.RoleAsks || r.Term() != 1 || r.Voted() != id || len(out) != 2 || r.Out() != nil {
			t.Error("asks", id)
		}
		for _, m := range out {
			if m.Kind != api.MsgVote || m.From != id || m.To == id || m.Term != 1 || m.A != 0 || m.B != 0 {
				t.Error(m)
			}
		}
		ticks(r, 4+3*id)
		if r.Term() != 2 {
			t.Error("asks again", id)
		}
	}
	r := raft.New(0, raft.Kept{Term: api.MostTerm, Voted: -1})
	ticks(r, 20)
	if r.Term() != api.MostTerm || r.Role() != api.RoleFollows || r.Out() != nil {
		t.Error("terms are used up")
	}
	r = raft.New(0, raft.Kept{Term: 3, Voted: -1, Log: []api.Entry{{Term: 2}, {Term: 3}}})
	ticks(r, 4)
	if m := r.Out()[1]; m.A != 2 || m.B != 3 || m.To != 2 || m.Term != 4 {
		t.Error("its last entry", m)
	}
}

func TestVotes(t *testing.T) {
	ask := func(r *raft.Raft, from, term, at, last int) bool {
		r.Step(api.Msg{Kind: api.MsgVote, From: from, To: 1, Term: term, A: at, B: last})
		out := r.Out()
		if len(out) != 1 || out[0].Kind != api.MsgVoted || out[0].Term != r.Term() || out[0].To != from || out[0].From != 1 {
			t.Fatal(out)
		}
		return out[0].Yes
	}
	r := raft.New(1, raft.Kept{Term: 3, Voted: -1, Log: []api.Entry{{Term: 2}}})
	if ask(r, 0, 2, 9, 9) || r.Voted() != -1 || r.Term() != 3 {
		t.Error("an elder term")
	}
	if ask(r, 0, 4, 0, 0) || r.Term() != 4 || r.Voted() != -1 {
		t.Error("an elder log, a newer term")
	}
	if !ask(r, 2, 4, 1, 2) || r.Voted() != 2 || ask(r, 0, 4, 5, 5) || !ask(r, 2, 4, 1, 2) {
		t.Error("one in a term")
	}
	r = fresh(1)
	ticks(r, 6)
	ask(r, 0, 1, 0, 0)
	ticks(r, 6)
	if r.Role() != api.RoleFollows {
		t.Error("it voted: then it was not quiet")
	}
	r = raft.New(1, raft.Kept{Term: 3, Voted: -1, Log: []api.Entry{{Term: 2}}})
	ticks(r, 6)
	ask(r, 0, 4, 0, 0)
	r.Tick()
	if r.Role() != api.RoleAsks || r.Term() != 5 {
		t.Error("it did not vote: it goes on being quiet")
	}
	if r.Out(); ask(r, 0, 5, 9, 9) {
		t.Error("one that asks votes for itself")
	}
}

func TestLeads(t *testing.T) {
	r := fresh(0)
	ticks(r, 4)
	r.Out()
	voted := api.Msg{Kind: api.MsgVoted, From: 2, To: 0, Term: 1, Yes: true}
	for _, f := range []func(*api.Msg){func(m *api.Msg) { m.Yes = false }, func(m *api.Msg) { m.Term = 0 }, func(m *api.Msg) { m.From = 0 }, func(m *api.Msg) { m.From = 3 }, func(m *api.Msg) { m.To = 1 }} {
		m := voted
		f(&m)
		r.Step(m)
		if r.Role() != api.RoleAsks {
			t.Error(m)
		}
	}
	r.Step(voted)
	out := r.Out()
	if r.Role() != api.RoleLeads || r.Log().Len() != 1 || len(out) != 2 {
		t.Fatal("it leads", out)
	}
	for i, m := range out {
		if m.Kind != api.MsgAppend || m.To != i+1 || m.A != 0 || m.B != 0 || m.N != 0 || len(m.Entries) != 1 || m.Entries[0].Term != 1 || m.Entries[0].Cmd.Kind != api.CmdNone {
			t.Error(m)
		}
	}
	r.Step(voted)
	r.Tick()
	if out := r.Out(); len(out) != 2 || out[0].Kind != api.MsgAppend || r.Log().Len() != 1 {
		t.Error("tells all at each tick", out)
	}
	r.Step(api.Msg{Kind: api.MsgAppended, From: 1, To: 0, Term: 2})
	if r.Role() != api.RoleFollows || r.Term() != 2 || r.Voted() != -1 {
		t.Error("a higher term")
	}
}

func TestWish(t *testing.T) {
	r := leader(t)
	if r.Wish(api.Cmd{}) || r.Wish(api.Cmd{Kind: 9}) || fresh(0).Wish(wish(1)) {
		t.Error("what may not be wished")
	}
	if !r.Wish(wish(1)) || !r.Wish(wish(1)) || r.Log().Len() != 2 {
		t.Error("laid once")
	}
	r.Out()
	for i := 2; r.Log().Len() < api.MostLog; i++ {
		r.Wish(wish(i))
	}
	if r.Wish(wish(1000)) || !r.Wish(wish(5)) {
		t.Error("there is no room")
	}
	r.Out()
	r.Step(api.Msg{Kind: api.MsgAppended, From: 1, To: 0, Term: 1, Yes: true, A: 5})
	r.Tick()
	if m := r.Out()[0]; m.A != 5 || m.B != 1 || m.N != 5 || len(m.Entries) != api.MostBatch {
		t.Error(m.A, m.N, len(m.Entries))
	}
}

func TestAppended(t *testing.T) {
	r := leader(t)
	r.Wish(wish(1))
	r.Out()
	r.Step(api.Msg{Kind: api.MsgAppended, From: 1, To: 0, Term: 1, A: 2})
	r.Step(api.Msg{Kind: api.MsgAppended, From: 1, To: 0, Term: 0, Yes: true, A: 2})
	if r.Done() != 0 {
		t.Error("without Yes, or of another term")
	}
	r.Step(api.Msg{Kind: api.MsgAppended, From: 1, To: 0, Term: 1, Yes: true, A: 99})
	if r.Done() != 2 || r.State().Epoch != 1 {
		t.Error("at most its last place", r.Done())
	}
	r.Tick()
	if m := r.Out()[0]; m.A != 2 || m.N != 2 || len(m.Entries) != 0 {
		t.Error(m)
	}
}

func TestAppend(t *testing.T) {
	r := fresh(2)
	step := func(m api.Msg) api.Msg {
		t.Helper()
		m.From, m.To = 0, 2
		r.Step(m)
		out := r.Out()
		if len(out) != 1 || out[0].Kind != api.MsgAppended || out[0].To != 0 || out[0].Term != r.Term() {
			t.Fatal(out)
		}
		return out[0]
	}
	l := []api.Entry{{Term: 1}, {Term: 1, Cmd: wish(1)}, {Term: 1}}
	if m := step(api.Msg{Kind: api.MsgAppend, Term: 1, N: 2, Entries: l}); !m.Yes || m.A != 3 || r.Done() != 2 || r.State().Epoch != 1 {
		t.Error(m, r.Done())
	}
	if m := step(api.Msg{Kind: api.MsgAppend, Term: 1, A: 1, B: 1, N: 1}); !m.Yes || m.A != 1 || r.Done() != 2 {
		t.Error("what is decided stays", m, r.Done())
	}
	if m := step(api.Msg{Kind: api.MsgAppend, Term: 1, A: 5, B: 1, N: 9}); m.Yes || m.A != 0 || r.Done() != 2 {
		t.Error("the one ahead is not there", m)
	}
	if m := step(api.Msg{Kind: api.MsgAppend, Term: 2, A: 3, B: 1, N: 9}); !m.Yes || r.Done() != 3 || r.Term() != 2 {
		t.Error("up to the place at most", m)
	}
	if m := step(api.Msg{Kind: api.MsgAppend, Term: 1, A: 3, B: 1}); m.Yes || m.Term != 2 {
		t.Error("an elder term", m)
	}
	ticks(r, 9)
	step(api.Msg{Kind: api.MsgAppend, Term: 2, A: 3, B: 1})
	ticks(r, 9)
	if r.Role() != api.RoleFollows {
		t.Error("it heard from one that leads")
	}
	r.Tick()
	r.Out()
	if r.Role() != api.RoleAsks || r.Term() != 3 {
		t.Error("then it was quiet")
	}
	if step(api.Msg{Kind: api.MsgAppend, Term: 3, A: 3, B: 1}); r.Role() != api.RoleFollows {
		t.Error("another one leads in its term")
	}
}

func TestShorten(t *testing.T) {
	r := leader(t)
	for i := 1; i < api.SnapEvery; i++ {
		r.Wish(wish(i))
	}
	r.Step(api.Msg{Kind: api.MsgAppended, From: 1, To: 0, Term: 1, Yes: true, A: api.SnapEvery - 1})
	r.Tick()
	if base, _ := r.Log().Base(); base != 0 {
		t.Error("one fewer is kept")
	}
	r.Step(api.Msg{Kind: api.MsgAppended, From: 1, To: 0, Term: 1, Yes: true, A: api.SnapEvery})
	r.Wish(wish(40))
	r.Out()
	r.Tick()
	k := r.Keep()
	if k.Snap.At != api.SnapEvery || k.Snap.Term != 1 || len(k.Log) != 1 || !decide.Same(k.Snap.State, r.State()) || k.Snap.State.Epoch != api.SnapEvery-1 {
		t.Error(k.Snap.At, len(k.Log))
	}
	out := r.Out()
	if out[0].Kind != api.MsgAppend || out[0].A != api.SnapEvery || len(out[0].Entries) != 1 {
		t.Error("to one that has all", out[0])
	}
	if m := out[1]; m.Kind != api.MsgSnap || m.A != api.SnapEvery || m.B != 1 || !decide.Same(m.State, k.Snap.State) {
		t.Error("to one that has not", m)
	}
}

func TestSnap(t *testing.T) {
	st := decide.Do(api.State{}, wish(1))
	r := raft.New(1, raft.Kept{Term: 2, Voted: -1, Log: []api.Entry{{Term: 1}, {Term: 2}, {Term: 2}}})
	step := func(m api.Msg) api.Msg {
		m.Kind, m.From, m.To, m.State = api.MsgSnap, 0, 1, st
		r.Step(m)
		return r.Out()[0]
	}
	if m := step(api.Msg{Term: 1, A: 2, B: 2}); m.Kind != api.MsgAppended || m.Yes || r.Done() != 0 {
		t.Error("an elder term", m)
	}
	if m := step(api.Msg{Term: 2, A: 2, B: 2}); !m.Yes || m.A != 2 || r.Done() != 2 || r.Log().Len() != 3 || !decide.Same(r.State(), st) || r.Keep().Snap.At != 2 {
		t.Error("what is behind it stays", m, r.Log().Len())
	}
	if m := step(api.Msg{Term: 2, A: 1, B: 1}); !m.Yes || m.A != 1 || r.Done() != 2 {
		t.Error("more is decided", m)
	}
	if step(api.Msg{Term: 2, A: 3, B: 1}); r.Done() != 3 || r.Log().Len() != 3 || r.Log().Term(3) != 1 {
		t.Error("of another term")
	}
	if step(api.Msg{Term: 3, A: 9, B: 3}); r.Done() != 9 || r.Log().Len() != 9 || r.Term() != 3 || len(r.Keep().Log) != 0 {
		t.Error("nothing behind it")
	}
	if raft.New(1, r.Keep()) == nil {
		t.Error("it may be kept so")
	}
}

func TestStepIgnores(t *testing.T) {
	r := fresh(1)
	for _, m := range []api.Msg{
		{Kind: api.MsgVote, From: 0, To: 2, Term: 5}, {Kind: api.MsgVote, From: 1, To: 1, Term: 5}, {Kind: api.MsgVote, From: 5, To: 1, Term: 5},
		{Kind: api.MsgVote, From: -1, To: 1, Term: 5}, {Kind: api.MsgVote, From: 0, To: 1, Term: -1}, {Kind: api.MsgVote, From: 0, To: 1, Term: api.MostTerm + 1},
		{Kind: 99, From: 0, To: 1, Term: 5}, {Kind: api.MsgAppended, From: 0, To: 1, A: 9, Yes: true}, {Kind: api.MsgVoted, From: 0, To: 1, Yes: true},
	} {
		r.Step(m)
		if r.Term() != 0 || r.Out() != nil || r.Role() != api.RoleFollows {
			t.Error(m)
		}
	}
	for _, a := range []int{-1, math.MinInt, math.MaxInt} {
		r.Step(api.Msg{Kind: api.MsgAppend, From: 0, To: 1, Term: 1, A: a, N: a})
		r.Step(api.Msg{Kind: api.MsgVote, From: 0, To: 1, Term: 1, A: a, B: a})
	}
}

func TestNone(t *testing.T) {
	var r *raft.Raft
	r.Tick()
	r.Step(api.Msg{})
	k := r.Keep()
	if r.Term() != 0 || r.Voted() != -1 || r.Role() != 0 || r.Done() != 0 || r.Log() != nil || !decide.Same(r.State(), api.State{}) || r.Out() != nil || r.Wish(wish(1)) || k.Term != 0 || k.Log != nil {
		t.Error("of none")
	}
}

// group is three voters, that begin anew as they were kept, and what is under way.
type group struct {
	seed uint64
	r    [api.Voters]*raft.Raft
	kept [api.Voters]raft.Kept
	way  []api.Msg
	leds map[int]int
	all  []api.Entry // what was decided, by places
	base int
}

func (g *group) draw(n int) int {
	g.seed = g.seed*6364136223846793005 + 1442695040888963407
	return int(g.seed>>33) % n
}

// tell keeps a voter, and lets what it says be under way.
func (g *group) tell(who int) {
	g.kept[who] = g.r[who].Keep()
	g.way = append(g.way, g.r[who].Out()...)
}

func (g *group) act(t *testing.T, quiet bool) {
	who := g.draw(api.Voters)
	switch k := g.draw(20); {
	case k < 2 || len(g.way) == 0:
		g.r[who].Tick()
		g.tell(who)
	case k < 3 && !quiet:
		g.r[who].Tick()
		g.r[who] = raft.New(who, g.kept[who])
	case k < 5:
		g.r[who].Wish(wish(1 + g.draw(1<<20)))
		g.tell(who)
	default:
		i := g.draw(len(g.way))
		m := g.way[i]
		if k != 6 || quiet {
			g.way = append(g.way[:i], g.way[i+1:]...)
		}
		if k == 7 && !quiet {
			return
		}
		g.r[m.To].Step(m)
		g.tell(m.To)
	}
	g.look(t)
}

// look holds all voters against 19.3.
func (g *group) look(t *testing.T) {
	for who, r := range g.r {
		if r.Role() == api.RoleLeads {
			if was, ok := g.leds[r.Term()]; ok && was != who {
				t.Fatal("two lead in the term", r.Term())
			}
			g.leds[r.Term()] = who
		}
		base, _ := r.Log().Base()
		for at := base + 1; at <= r.Done(); at++ {
			e := r.Log().From(at, 1)[0]
			if at > len(g.all) {
				g.all = append(g.all, e)
			}
			if !entry.Same(g.all[at-1], e) {
				t.Fatal("unlike at", at)
			}
		}
		if !decide.Same(r.State(), decide.All(api.State{}, entry.Cmds(g.all[:r.Done()]))) {
			t.Fatal("the state of", who)
		}
	}
}

func TestTwoNeverLead(t *testing.T) {
	for seed := range uint64(30) {
		g := &group{seed: seed, leds: map[int]int{}}
		for who := range g.r {
			g.r[who] = fresh(who)
			g.kept[who] = g.r[who].Keep()
		}
		for range 1500 {
			g.act(t, false)
			if len(g.way) > 200 {
				g.way = g.way[100:]
			}
		}
		if len(g.all) == 0 {
			t.Error("nothing was decided", seed)
		}
	}
}
