package journal_test

import (
	"fmt"
	"math"
	"slices"
	"strings"
	"testing"

	"tarn/api"
	"tarn/disk"
	"tarn/journal"
	"tarn/num"
	"tarn/super"
)

func fresh(sectors int) *disk.Disk {
	d, _ := disk.New(sectors)
	return d
}

func open(t *testing.T, d *disk.Disk) *journal.Journal {
	t.Helper()
	j, e := journal.Open(d)
	if e != api.OK {
		t.Fatal(e)
	}
	return j
}

func TestOpen(t *testing.T) {
	if j, e := journal.Open(fresh(api.LeastSectors - 1)); j != nil || e != api.ErrInput {
		t.Error("too few sectors")
	}
	if j, e := journal.Open(nil); j != nil || e != api.ErrInput {
		t.Error("no disk")
	}
	j := open(t, fresh(api.LeastSectors))
	if used, n := j.Used(); used != 0 || n != 0 || j.Later() || j.All("") != nil {
		t.Error("an empty one")
	}
	for _, word := range []string{
		num.Put(2) + num.Put(0), num.Put(0) + num.Put(129), "\x09", num.Put(0) + num.Put(0) + "x", num.Put(0) + num.Put(1),
	} {
		d := fresh(api.LeastSectors)
		super.Write(d, 0, 1, word)
		if j, e := journal.Open(d); j != nil || e != api.ErrForm {
			t.Errorf("%x: %d", word, e)
		}
	}
}

func TestOpenRecords(t *testing.T) {
	for _, c := range []struct {
		s  string
		ok bool
	}{
		{"n" + num.Text("k") + num.Text("v"), true}, {"y" + num.Text("k"), true}, {"n" + num.Text("k"), false}, {"x" + num.Text("k"), false},
		{"n" + num.Text("") + num.Text("v"), false}, {"y" + num.Text(""), false}, {"y" + num.Text(strings.Repeat("k", 33)), false},
	} {
		d := fresh(api.LeastSectors)
		d.Write(2, c.s)
		super.Write(d, 0, 1, num.Put(0)+num.Put(uint64(len(c.s))))
		if j, e := journal.Open(d); (j != nil) != c.ok || (e == api.OK) != c.ok || !c.ok && e != api.ErrForm {
			t.Errorf("%q: %d", c.s, e)
		}
	}
}

func TestPutGetAll(t *testing.T) {
	j := open(t, fresh(20))
	for _, k := range []string{"", strings.Repeat("k", api.MostKey+1)} {
		if j.Put(k, "") != api.ErrInput {
			t.Error("key", k)
		}
		j.Del(k)
	}
	if j.Put("k", strings.Repeat("v", api.MostValue+1)) != api.ErrInput || j.Later() {
		t.Error("what may not be is nothing")
	}
	for _, k := range []string{"b2", "a", "b1", "c"} {
		j.Put(k, "of "+k)
	}
	j.Put("b2", "")
	if v, ok := j.Get("a"); v != "of a" || !ok {
		t.Error(v)
	}
	if v, ok := j.Get("b"); v != "" || ok {
		t.Error("none such")
	}
	if l := j.All("b"); !slices.Equal(l, []api.Pair{{Key: "b1", Value: "of b1"}, {Key: "b2"}}) {
		t.Error(l)
	}
	j.Del("b1")
	l := j.All("")
	l[0].Key = "z"
	if l := j.All(""); len(l) != 3 || l[0].Key != "a" || !j.Later() {
		t.Error(l)
	}
	j.Sync()
	if j.Later() {
		t.Error("all is sure")
	}
}

func TestSure(t *testing.T) {
	d := fresh(20)
	j := open(t, d)
	j.Put("k", "v")
	j.Put("l", "w")
	j.Del("k")
	j.Sync()
	if used, n := j.Used(); used != 7+7+4 || n != 1 {
		t.Error(used, n)
	}
	j.Put("m", "x")
	j.Break(3, 0)
	j = open(t, d)
	if l := j.All(""); !slices.Equal(l, []api.Pair{{Key: "l", Value: "w"}}) {
		t.Error(l)
	}
	j.Put("m", "x")
	j.Break(3, api.FateKept)
	j = open(t, d)
	if v, _ := j.Get("m"); v != "x" {
		t.Error("it was told")
	}
	if used, n := j.Used(); used != 25 || n != 2 {
		t.Error(used, n)
	}
	j.Break(9, math.MaxUint64)
	if used, n := open(t, d).Used(); used != 25 || n != 2 {
		t.Error("nothing was to be made sure")
	}
}

func TestFull(t *testing.T) {
	d := fresh(api.LeastSectors) // areas of 128 bytes
	j := open(t, d)
	v := strings.Repeat("v", 40)
	if j.Put("a", v) != api.OK || j.Put("b", v) != api.OK || j.Put("c", v) != api.ErrFull {
		t.Error("two have room, three have not")
	}
	if j.Put("a", v+"x") != api.OK {
		t.Error("in the place of the elder one")
	}
	j.Sync()
	if used, n := j.Used(); used != 47+46 || n != 1 {
		t.Error("all pairs into the other area", used, n)
	}
	j.Del("b")
	j.Sync()
	if used, n := j.Used(); used != 47+46+4 || n != 2 {
		t.Error(used, n)
	}
	for range 9 {
		j.Put("b", v)
		j.Sync()
	}
	j.Put("b", strings.Repeat("v", 128-47-6))
	if j.Put("b", strings.Repeat("v", 128-47-5)) != api.ErrFull {
		t.Error("one byte too many")
	}
	j.Sync()
	if used, _ := j.Used(); used != 128 {
		t.Error(used)
	}
	if l := open(t, d).All(""); len(l) != 2 || len(l[1].Value) != 75 {
		t.Error(l)
	}
}

func same(a, b []api.Pair) bool { return slices.Equal(a, b) }

// Whatever breaks where: all or none of it is sure.
func TestAllOrNone(t *testing.T) {
	seed := uint64(7)
	draw := func(n int) int {
		seed = seed*6364136223846793005 + 1442695040888963407
		return int(seed>>33) % n
	}
	d := fresh(10)
	j := open(t, d)
	for round := range 3000 {
		was := j.All("")
		for range draw(4) {
			key := fmt.Sprint("k", draw(4))
			if draw(4) == 0 {
				j.Del(key)
			} else {
				j.Put(key, strings.Repeat(string(rune('a'+draw(26))), draw(60)))
			}
		}
		is := j.All("")
		step := draw(5)
		if step == 4 {
			j.Sync()
			j = open(t, d)
			if !same(j.All(""), is) {
				t.Fatal(round, "made sure")
			}
			continue
		}
		j.Break(step, uint64(draw(1<<30))|uint64(draw(1<<30))<<32)
		j = open(t, d)
		now := j.All("")
		if !same(now, is) && !same(now, was) || step < 3 && !same(now, was) {
			t.Fatal(round, step, "all or none")
		}
	}
}

func TestNone(t *testing.T) {
	var j *journal.Journal
	j.Del("a")
	j.Sync()
	j.Break(3, 3)
	v, ok := j.Get("a")
	used, n := j.Used()
	if j.Put("a", "b") != api.ErrInput || v != "" || ok || j.All("") != nil || j.Later() || used != 0 || n != 0 {
		t.Error("of none")
	}
}
