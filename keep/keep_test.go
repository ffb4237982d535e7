package keep_test

import (
	"reflect"
	"strings"
	"testing"

	"tarn/api"
	"tarn/decide"
	"tarn/disk"
	"tarn/entry"
	"tarn/journal"
	"tarn/keep"
	"tarn/num"
	"tarn/raft"
)

func fresh(sectors int) (*disk.Disk, *journal.Journal) {
	d, _ := disk.New(sectors)
	j, _ := journal.Open(d)
	return d, j
}

func wish(count int) api.Cmd {
	return api.Cmd{Kind: api.CmdPrepare, Conf: api.Conf{By: 5, Count: count, Mirrors: []int{3}, Chain: []int{0}}}
}

func kept(at int, terms ...int) raft.Kept {
	k := raft.Kept{Term: 9, Voted: 2, Snap: api.Snap{At: at}}
	if at > 0 {
		k.Snap.Term = 1
		k.Snap.State = decide.Do(api.State{}, wish(1))
	}
	for i, t := range terms {
		k.Log = append(k.Log, api.Entry{Term: t, Cmd: wish(i + 2)})
	}
	return k
}

func TestLoadOfSave(t *testing.T) {
	d, j := fresh(200)
	for _, k := range []raft.Kept{{Voted: -1}, kept(0, 1, 2), kept(0, 1, 3, 3), kept(1, 3), kept(40), kept(300, 9, 9)} {
		r := raft.New(1, k)
		if e := keep.Save(j, r); e != api.OK {
			t.Fatal(e)
		}
		j.Sync()
		j, _ = journal.Open(d)
		if got := keep.Load(j, 1); !reflect.DeepEqual(got.Keep(), r.Keep()) {
			t.Errorf("%+v\n%+v", got.Keep(), r.Keep())
		}
		if keep.Save(j, r) != api.OK || j.Later() {
			t.Error("what is kept so is not laid again")
		}
		if len(j.All("e")) != len(k.Log) {
			t.Error("entries that are not kept go")
		}
	}
}

func TestKeys(t *testing.T) {
	_, j := fresh(200)
	keep.Save(j, raft.New(0, raft.Kept{Voted: -1}))
	if v, ok := j.Get("t"); v != "\x00\x00" || !ok || len(j.All("")) != 1 {
		t.Errorf("a new one: %q", j.All(""))
	}
	k := kept(300, 9)
	keep.Save(j, raft.New(0, k))
	want := []api.Pair{
		{Key: "e\x00\x00\x01\x2d", Value: entry.Put(k.Log[0])},
		{Key: "s", Value: "\x02\x01\x2c\x01\x01" + decide.PutState(k.Snap.State)},
		{Key: "t", Value: "\x01\x09\x01\x03"},
	}
	if got := j.All(""); !reflect.DeepEqual(got, want) {
		t.Errorf("%q", got)
	}
}

func TestSaveFails(t *testing.T) {
	_, j := fresh(200)
	if keep.Save(j, nil) != api.ErrInput || keep.Save(nil, raft.New(0, raft.Kept{Voted: -1})) != api.ErrInput {
		t.Error("no voter, no journal")
	}
	_, j = fresh(api.LeastSectors)
	if keep.Save(j, raft.New(0, kept(0, 1, 1, 1, 1, 1, 1))) != api.ErrFull {
		t.Error("no room")
	}
}

func TestLoadRefuses(t *testing.T) {
	_, empty := fresh(10)
	if keep.Load(empty, 3) != nil || keep.Load(empty, -1) != nil {
		t.Error("no such voter")
	}
	if r := keep.Load(empty, 2); r.Term() != 0 || r.Voted() != -1 {
		t.Error("a new one")
	}
	state := decide.PutState(api.State{})
	one := entry.Put(api.Entry{Term: 1})
	for i, l := range [][]api.Pair{
		{{Key: "t", Value: ""}}, {{Key: "t", Value: "\x00\x00x"}}, {{Key: "t", Value: "\x00\x01\x04"}}, {{Key: "t", Value: num.Put(api.MostTerm+1) + "\x00"}},
		{{Key: "s", Value: "\x00\x00" + state}}, {{Key: "e\x00\x00\x00\x01", Value: one}},
		{{Key: "t", Value: "\x00\x00"}, {Key: "s", Value: "\x00\x00"}}, {{Key: "t", Value: "\x00\x00"}, {Key: "s", Value: "\x01\x05\x01\x01" + state}},
		{{Key: "t", Value: "\x00\x00"}, {Key: "s", Value: "\x00\x00" + state + "x"}},
		{{Key: "t", Value: "\x00\x00"}, {Key: "e\x00\x00\x00\x02", Value: one}}, {{Key: "t", Value: "\x00\x00"}, {Key: "e\x00\x00\x00\x01", Value: one + "x"}},
		{{Key: "t", Value: "\x00\x00"}, {Key: "e", Value: one}}, {{Key: "t", Value: "\x00\x00"}, {Key: "e\x00\x00\x00\x01", Value: ""}},
		{{Key: "t", Value: "\x00\x00"}, {Key: "e\x00\x00\x00\x01", Value: one}, {Key: "e\x00\x00\x00\x03", Value: one}},
		{{Key: "t", Value: "\x00\x00"}, {Key: "e\x00\x00\x00\x01x", Value: strings.Repeat(one, 1)}},
	} {
		_, j := fresh(30)
		for _, p := range l {
			j.Put(p.Key, p.Value)
		}
		if keep.Load(j, 0) != nil {
			t.Error(i)
		}
	}
}
