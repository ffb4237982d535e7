package mirror_test

import (
	"math"
	"slices"
	"strings"
	"testing"

	"tarn/api"
	"tarn/mirror"
)

func of(ver uint64) api.Item { return api.Item{Ver: ver, Data: strings.Repeat("a", 32)} }

func check(t *testing.T, m *mirror.Mirror, block, kind int, ver uint64) {
	t.Helper()
	k, x := m.Check(block)
	if k != kind || x.Ver != ver || (kind == api.ValueNone && x != api.Item{}) {
		t.Error(block, k, x)
	}
}

func TestPutClean(t *testing.T) {
	m := mirror.New(2)
	check(t, m, 1, api.ValueNone, 0)
	if !m.Put(1, of(5)) || m.Put(1, of(5)) || m.Put(1, of(4)) || m.Put(2, of(0)) || m.Put(2, api.Item{Ver: 1, Data: "x"}) || m.Put(-1, of(1)) || m.Put(64, of(1)) {
		t.Error("newer than what was met")
	}
	check(t, m, 1, api.ValueDirty, 5)
	if m.Met(1) != 5 || m.Met(2) != 0 || m.Met(-1) != 0 || m.Met(64) != 0 || m.Kept() != 0 {
		t.Error("met")
	}
	if m.Clean(1, 4) || m.Clean(2, 9) || m.Clean(-1, 9) || !m.Clean(1, 5) || m.Clean(1, 5) {
		t.Error("clean, if it is not newer")
	}
	check(t, m, 1, api.ValueClean, 5)
	if m.Dirty() != nil || m.Kept() != 1 || m.Met(1) != 5 || m.Put(1, of(5)) {
		t.Error("what is clean was met")
	}
	m.Put(1, of(6))
	if m.Kept() != 0 {
		t.Error("its block is not clean any more")
	}
	check(t, m, 1, api.ValueDirty, 6)
	m.Put(0, of(9))
	if l := m.Dirty(); !slices.Equal(l, []api.Held{{Block: 0, Item: of(9)}, {Block: 1, Item: of(6)}}) {
		t.Error(l)
	}
	if !m.Clean(1, math.MaxUint64) {
		t.Error("of a newer one")
	}
}

func TestWarm(t *testing.T) {
	m := mirror.New(2)
	if m.Warm(1, api.Item{Data: "x"}) || m.Warm(64, of(1)) || m.Warm(-1, of(1)) {
		t.Error("what may not be")
	}
	if !m.Warm(1, api.Item{}) {
		t.Error("one that was never written")
	}
	check(t, m, 1, api.ValueClean, 0)
	if !m.Warm(1, of(3)) || m.Warm(1, of(2)) || !m.Warm(1, of(3)) || m.Met(1) != 3 {
		t.Error("none elder than what was met")
	}
	m.Put(2, of(4))
	if m.Warm(2, of(9)) || m.Met(2) != 4 {
		t.Error("it is dirty")
	}
	check(t, m, 2, api.ValueDirty, 4)
	m.Warm(3, of(1))
	check(t, m, 1, api.ValueClean, 3)
	m.Warm(4, of(1))
	check(t, m, 3, api.ValueNone, 0)
	if m.Kept() != 2 || m.Met(3) != 1 {
		t.Error("no more than its room", m.Kept())
	}
	none := mirror.New(0)
	if !none.Warm(1, of(3)) || none.Met(1) != 3 || none.Kept() != 0 {
		t.Error("without room it is met")
	}
	check(t, none, 1, api.ValueNone, 0)
}

func TestRestore(t *testing.T) {
	dirty := []api.Held{{Block: 3, Item: of(7)}, {Block: 5, Item: of(2)}, {Block: 64, Item: of(1)}}
	m := mirror.Restore(1, dirty, []api.Held{{Block: 5, Item: api.Item{Ver: 9}}, {Block: 6, Item: api.Item{Ver: 1}}, {Block: -1}, {Block: 3}})
	if m.Met(3) != 7 || m.Met(5) != 9 || m.Met(6) != 1 || !slices.Equal(m.Dirty(), dirty[:2]) || m.Kept() != 0 {
		t.Error("as kept")
	}
	check(t, m, 3, api.ValueDirty, 7)
	check(t, m, 6, api.ValueNone, 0)
	if m.Put(5, of(9)) || !m.Put(5, of(10)) || !m.Clean(3, 7) || m.Kept() != 1 {
		t.Error("it goes on")
	}
}

func TestNone(t *testing.T) {
	var m *mirror.Mirror
	check(t, m, 0, api.ValueNone, 0)
	if m.Met(0) != 0 || m.Put(0, of(1)) || m.Clean(0, 1) || m.Warm(0, of(1)) || m.Dirty() != nil || m.Kept() != 0 {
		t.Error("of none")
	}
	zero := &mirror.Mirror{}
	zero.Put(0, of(1))
	zero.Warm(0, of(1))
	zero.Check(0)
}
