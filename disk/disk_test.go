package disk_test

import (
	"math"
	"strings"
	"testing"

	"tarn/api"
	"tarn/disk"
)

func sector(letter string) string { return strings.Repeat(letter, api.SectorBytes) }

func fresh(t *testing.T, n int) *disk.Disk {
	d, e := disk.New(n)
	if e != api.OK {
		t.Fatal(e)
	}
	return d
}

func want(t *testing.T, d *disk.Disk, at int, s string) {
	t.Helper()
	if got, e := d.Read(at); got != s || e != api.OK {
		t.Errorf("sector %d: %q %d", at, got, e)
	}
}

func TestNew(t *testing.T) {
	for _, n := range []int{0, -1, math.MinInt, api.MostSectors + 1, math.MaxInt} {
		if d, e := disk.New(n); d != nil || e != api.ErrInput {
			t.Error(n)
		}
	}
	if fresh(t, api.MostSectors).Sectors() != api.MostSectors {
		t.Error("MostSectors")
	}
	want(t, fresh(t, 1), 0, sector("\x00"))
}

func TestReadWrite(t *testing.T) {
	d := fresh(t, 3)
	for _, at := range []int{-1, 3, math.MaxInt, math.MinInt} {
		if s, e := d.Read(at); s != "" || e != api.ErrInput || d.Write(at, "") != api.ErrInput {
			t.Error(at)
		}
	}
	if d.Write(0, sector("a")+"a") != api.ErrInput || d.Later() != 0 {
		t.Error("too many bytes")
	}
	if d.Write(0, sector("a")) != api.OK || d.Write(0, "bc") != api.OK || d.Write(2, "") != api.OK || d.Later() != 3 {
		t.Error("three writings", d.Later())
	}
	want(t, d, 0, "bc"+sector("\x00")[2:])
	want(t, d, 1, sector("\x00"))
	d.Sync()
	d.Crash(0)
	want(t, d, 0, "bc"+sector("\x00")[2:])
	if d.Later() != 0 {
		t.Error("all is sure")
	}
}

func TestFates(t *testing.T) {
	h := api.SectorBytes / 2
	d := fresh(t, 4)
	for at := range 4 {
		d.Write(at, sector("a"))
	}
	d.Sync()
	for at := range 4 {
		d.Write(at, sector("b"))
	}
	d.Crash(api.FateLost | api.FateKept<<2 | api.FateFront<<4 | api.FateBack<<6)
	want(t, d, 0, sector("a"))
	want(t, d, 1, sector("b"))
	want(t, d, 2, sector("b")[:h]+sector("a")[h:])
	want(t, d, 3, sector("a")[:h]+sector("b")[h:])
	if d.Later() != 0 {
		t.Error("nothing is under way behind a crash")
	}
	d.Write(0, sector("c"))
	d.Write(0, sector("d"))
	d.Crash(api.FateFront | api.FateBack<<2)
	want(t, d, 0, sector("c")[:h]+sector("d")[h:])
}

func TestFatesGoRound(t *testing.T) {
	d := fresh(t, 40)
	for at := range 40 {
		d.Write(at, sector("x"))
	}
	d.Crash(api.FateKept<<2 | api.FateKept<<62)
	for at := range 40 {
		s := sector("\x00")
		if at%32 == 1 || at%32 == 31 {
			s = sector("x")
		}
		want(t, d, at, s)
	}
}

func TestWipe(t *testing.T) {
	d := fresh(t, 2)
	d.Write(0, "a")
	d.Sync()
	d.Write(1, "b")
	d.Wipe()
	want(t, d, 0, sector("\x00"))
	want(t, d, 1, sector("\x00"))
	if d.Later() != 0 || d.Sectors() != 2 {
		t.Error("as ahead of all")
	}
}

func TestNone(t *testing.T) {
	var d *disk.Disk
	d.Sync()
	d.Crash(1)
	d.Wipe()
	if s, e := d.Read(0); s != "" || e != api.ErrInput || d.Write(0, "") != api.ErrInput || d.Sectors() != 0 || d.Later() != 0 {
		t.Error("of none")
	}
}
