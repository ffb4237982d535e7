package pilot_test

import (
	"slices"
	"strings"
	"testing"

	"tarn/api"
	"tarn/calm"
	"tarn/conf"
	"tarn/pilot"
	"tarn/world"
)

func fresh() *world.World {
	return world.New(api.Setup{Volume: api.Volume{Blocks: 8, Dirty: 8, Writes: 1000}, Room: 4})
}

func course() api.Course { return api.Course{Who: 5, Mirrors: 2, Chain: 2, Quiet: 3, Dirty: 2} }

func write(w *world.World, at int) {
	w.Do(api.Act{What: api.ActAsk, Who: 5, Ask: api.Ask{What: api.AskWrite, At: at * 32, Data: strings.Repeat("a", 32)}})
}

func crash(w *world.World, l ...int) {
	for _, who := range l {
		w.Do(api.Act{What: api.ActCrash, Who: who})
	}
}

func TestNew(t *testing.T) {
	for _, who := range []int{-1, 0, 4, 7} {
		if pilot.New(api.Course{Who: who}) != nil {
			t.Error(who)
		}
	}
	var p *pilot.Pilot
	w := fresh()
	if p.Step(w) != api.PilotWaits || p.Fly(w, 9) != [4]int{} || pilot.New(course()).Step(nil) != api.PilotWaits || pilot.New(course()).Fly(nil, 5) != [4]int{5} {
		t.Error("of none")
	}
	if (&pilot.Pilot{}).Step(w) != api.PilotWaits {
		t.Error("one that was not made")
	}
}

func TestFlyOfANewWorld(t *testing.T) {
	w := fresh()
	p := pilot.New(course())
	if did := p.Fly(w, 100); did != [4]int{99, 1, 0, 0} {
		t.Error("it takes over once", did)
	}
	c := w.Gate(5).Conf()
	if !slices.Equal(c.Mirrors, []int{2, 3}) || !slices.Equal(c.Chain, []int{0, 1}) {
		t.Error(c)
	}
	if p.Fly(w, -4) != [4]int{} || p.Fly(w, 0) != [4]int{} {
		t.Error("no rounds")
	}
	w = fresh()
	if did := pilot.New(course()).Fly(w, 1<<40); did[0]+did[1] != api.MostRounds {
		t.Error("MostRounds", did)
	}
}

func TestSettlesTheEldest(t *testing.T) {
	w := fresh()
	p := pilot.New(course())
	p.Fly(w, 61)
	write(w, 3)
	if did := p.Fly(w, 20); did[api.PilotSettle] != 0 {
		t.Error("fewer than the course says", did)
	}
	write(w, 1)
	if did := p.Fly(w, 20); did[api.PilotSettle] != 1 || len(w.Gate(5).Dirty()) != 1 || w.Gate(5).Dirty()[0].Block != 1 {
		t.Error("the eldest", did, w.Gate(5).Dirty())
	}
	c := course()
	c.Dirty = -3
	w = fresh()
	p = pilot.New(c)
	p.Fly(w, 61)
	write(w, 3)
	if did := p.Fly(w, 20); did[api.PilotSettle] != 1 || w.Gate(5).Dirty() != nil {
		t.Error("1 at least", did)
	}
}

func TestMends(t *testing.T) {
	w := fresh()
	p := pilot.New(course())
	p.Fly(w, 30)
	crash(w, 3)
	for i := range 30 {
		if did := p.Step(w); did != api.PilotWaits {
			t.Fatal("it may not take over yet", i, did)
		}
		calm.Round(w)
	}
	if did := p.Step(w); did != api.PilotMends || w.Gate(5).Phase() != api.TakeWish {
		t.Fatal(did)
	}
	calm.Rounds(w, 40)
	if c := w.Gate(5).Conf(); !slices.Equal(c.Mirrors, []int{2, 4}) || !slices.Equal(c.Chain, []int{0, 1}) {
		t.Error(c)
	}
	w = fresh()
	p = pilot.New(course())
	p.Fly(w, 80)
	crash(w, 1)
	for i := range 3 {
		if did := p.Step(w); did != api.PilotWaits {
			t.Error("quiet, but not longer than the limit", i)
		}
	}
	if did := p.Step(w); did != api.PilotMends {
		t.Error(did)
	}
}

func TestGatewayDown(t *testing.T) {
	w := fresh()
	p := pilot.New(course())
	crash(w, 5)
	if did := p.Step(w); did != api.PilotWaits || !w.Up(5) {
		t.Error("started, nothing more", did)
	}
	if did := p.Step(w); did != api.PilotTakes {
		t.Error(did)
	}
	for i := range 59 {
		if did := p.Step(w); did != api.PilotWaits {
			t.Fatal(i, did)
		}
	}
	if did := p.Step(w); did != api.PilotTakes {
		t.Error("again, 60 behind", did)
	}
}

func TestNobodyIsUp(t *testing.T) {
	w := fresh()
	p := pilot.New(course())
	crash(w, 0, 1, 2, 3, 4)
	for range 3 {
		p.Step(w)
	}
	wishes := w.Gate(5).Wishes()
	for range 70 {
		if did := p.Step(w); did != api.PilotWaits {
			t.Fatal(did)
		}
	}
	if w.Gate(5).Wishes() != wishes {
		t.Error("no wish")
	}
}

// One thing that lasts is mended, though nobody is known to be quiet.
func TestOneThingLasts(t *testing.T) {
	c := course()
	c.Quiet = api.MostQuiet
	w := fresh()
	p := pilot.New(c)
	p.Fly(w, 100)
	crash(w, 2)
	write(w, 1)
	for i := range 60 {
		if i > 20 && i%8 == 0 {
			w.Do(api.Act{What: api.ActAsk, Who: 5, Ask: api.Ask{What: 9}})
			write(w, 2)
		}
		if did := p.Step(w); did != api.PilotWaits {
			t.Fatal(i, did)
		}
		calm.Round(w)
	}
	if did := p.Step(w); did != api.PilotMends {
		t.Error("more than 60 steps", did)
	}
}

func TestManyThingsAreNotOne(t *testing.T) {
	w := fresh()
	c := course()
	c.Dirty = 99
	p := pilot.New(c)
	p.Fly(w, 70)
	for range 3 {
		for at := range 60 {
			write(w, at%8)
		}
		if did := p.Fly(w, 100); did != [4]int{100, 0, 0, 0} {
			t.Error(did)
		}
	}
	p.Fly(w, 100)
	if len(w.History().Open()) != 0 || conf.None(w.Gate(5).Conf()) {
		t.Error("all is told")
	}
}

func TestFlyWhileNodesFail(t *testing.T) {
	w := fresh()
	p := pilot.New(course())
	for i := range 12 {
		crash(w, i%5)
		write(w, i%8)
		p.Fly(w, 100)
		w.Do(api.Act{What: api.ActStart, Who: i % 5})
		p.Fly(w, 30)
		if conf.None(w.Gate(5).Conf()) {
			t.Error("it serves", i)
		}
	}
}
