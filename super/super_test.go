package super_test

import (
	"math"
	"strings"
	"testing"

	"tarn/api"
	"tarn/disk"
	"tarn/super"
)

func fresh(n int) *disk.Disk {
	d, _ := disk.New(n)
	return d
}

func padded(s string) string { return s + strings.Repeat("\x00", api.WordBytes-len(s)) }

func TestPutGet(t *testing.T) {
	word := strings.Repeat("a", 24) + strings.Repeat("b", 24)
	s := super.Put(0x0102030405060708, word)
	if s != "\x01\x02\x03\x04\x05\x06\x07\x08"+word[:24]+"\x01\x02\x03\x04\x05\x06\x07\x08"+word[24:] {
		t.Errorf("%q", s)
	}
	if n, w, ok := super.Get(s); n != 0x0102030405060708 || w != word || !ok {
		t.Error(n, w)
	}
	if n, w, ok := super.Get(super.Put(1, "xy")); n != 1 || w != padded("xy") || !ok {
		t.Error("short word", n, w)
	}
	if super.Put(0, "x") != "" || super.Put(1, word+"c") != "" {
		t.Error("what may not be put")
	}
	for _, bad := range []string{"", s[:63], s + "x", strings.Repeat("\x00", 64), s[:32] + super.Put(9, word)[32:]} {
		if n, w, ok := super.Get(bad); n != 0 || w != "" || ok {
			t.Errorf("%q", bad)
		}
	}
}

func TestWriteRead(t *testing.T) {
	d := fresh(4)
	if _, _, ok := super.Read(d, 0); ok || super.Next(d, 0) != 1 {
		t.Error("an empty pair")
	}
	if super.Write(d, 1, 1, "one") != api.OK || super.Write(d, 1, 2, "two") != api.OK {
		t.Error("two words")
	}
	if s, _ := d.Read(2); s != super.Put(1, "one") {
		t.Error("1 stands behind")
	}
	if n, w, ok := super.Read(d, 1); n != 2 || w != padded("two") || !ok || super.Next(d, 1) != 3 {
		t.Error(n, w, super.Next(d, 1))
	}
	for _, e := range []api.Errno{
		super.Write(d, -1, 1, ""), super.Write(d, -1, 2, ""), super.Write(d, api.MostSectors+1, 1, ""), super.Write(d, math.MaxInt, 1, ""),
		super.Write(d, 0, 0, ""), super.Write(d, 0, 1, padded("")+"x"), super.Write(d, 3, 1, ""), super.Write(nil, 0, 1, ""),
	} {
		if e != api.ErrInput {
			t.Error("what may not be written", e)
		}
	}
	if super.Write(d, 3, 2, "") != api.OK {
		t.Error("the first one of the pair is there")
	}
}

// A word that is torn upon another one that was torn is never told.
func TestNextBehindTorn(t *testing.T) {
	d := fresh(2)
	super.Write(d, 0, 1, "one")
	d.Sync()
	super.Write(d, 0, 2, "two")
	d.Crash(api.FateFront)
	if n, _, ok := super.Read(d, 0); n != 1 || !ok {
		t.Error("the whole one is told")
	}
	if n := super.Next(d, 0); n != 4 {
		t.Error("3 stands where the last whole word does", n)
	}
	super.Write(d, 0, 4, "four")
	d.Crash(api.FateBack)
	if n, _, _ := super.Read(d, 0); n != 1 {
		t.Error("torn upon torn", n)
	}
	if n := super.Next(d, 0); n != 6 {
		t.Error(n)
	}
}

func TestNextWhereNoneIsWhole(t *testing.T) {
	d := fresh(2)
	super.Write(d, 0, 1, "one")
	d.Crash(api.FateBack)
	if _, _, ok := super.Read(d, 0); ok || super.Next(d, 0) != 2 {
		t.Error(super.Next(d, 0))
	}
}

func TestNextEnds(t *testing.T) {
	d := fresh(3)
	super.Write(d, 0, math.MaxUint64, "last")
	if super.Next(d, 0) != 0 {
		t.Error("above all")
	}
	d.Wipe()
	super.Write(d, 0, math.MaxUint64-1, "")
	if super.Next(d, 0) != math.MaxUint64 {
		t.Error("the last one")
	}
	d.Write(1, super.Put(math.MaxUint64-2, "")[:32])
	d.Wipe()
	// The greater half stands in the torn sector: the next one would stand upon the whole word, the one behind it is none.
	super.Write(d, 0, 1, "")
	d.Write(0, super.Put(math.MaxUint64-1, "")[:32])
	if super.Next(d, 0) != 0 {
		t.Error("the one that may be is too great")
	}
	for _, at := range []int{-1, api.MostSectors + 1, math.MinInt, math.MaxInt} {
		if super.Next(d, at) != 0 {
			t.Error(at)
		}
	}
	if super.Next(d, api.MostSectors) != 1 || super.Next(nil, 0) != 1 {
		t.Error("sectors that there are not say 0")
	}
	if _, _, ok := super.Read(nil, 0); ok {
		t.Error("no disk")
	}
	if _, _, ok := super.Read(d, math.MaxInt); ok {
		t.Error("far behind")
	}
}
