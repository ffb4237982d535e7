package area_test

import (
	"math"
	"strings"
	"testing"

	"tarn/api"
	"tarn/area"
	"tarn/disk"
)

func TestMay(t *testing.T) {
	for _, c := range []struct {
		a    api.Area
		want int
	}{
		{api.Area{First: 0, Len: 1}, 64}, {api.Area{First: api.MostSectors, Len: api.MostSectors}, 64 * api.MostSectors},
		{api.Area{First: -1, Len: 1}, 0}, {api.Area{First: api.MostSectors + 1, Len: 1}, 0}, {api.Area{First: 0, Len: 0}, 0},
		{api.Area{First: 0, Len: api.MostSectors + 1}, 0}, {api.Area{First: 0, Len: math.MinInt}, 0},
	} {
		if area.May(c.a) != (c.want > 0) || area.Bytes(c.a) != c.want {
			t.Error(c.a)
		}
	}
}

func TestReadWrite(t *testing.T) {
	d, _ := disk.New(6)
	a := api.Area{First: 2, Len: 3}
	model := make([]byte, 192)
	for i, at := range []int{60, 0, 63, 64, 130, 191, 5, 192} {
		s := strings.Repeat(string(rune('a'+i)), min(70, 192-at))
		if area.Write(d, a, at, s) != api.OK {
			t.Error(at)
		}
		copy(model[at:], s)
		for from := 0; from < 192; from += 13 {
			got, e := area.Read(d, a, from, 192-from)
			if got != string(model[from:]) || e != api.OK {
				t.Fatal(at, from)
			}
		}
	}
	for _, at := range []int{0, 1, 5} {
		if s, _ := d.Read(at); s != strings.Repeat("\x00", 64) {
			t.Error("beside the area", at)
		}
	}
	if got, e := area.Read(d, a, 10, 5); got != string(model[10:15]) || e != api.OK {
		t.Error("a few")
	}
}

func TestTwoSectors(t *testing.T) {
	d, _ := disk.New(2)
	area.Write(d, api.Area{First: 0, Len: 2}, 60, "12345678")
	if d.Later() != 2 {
		t.Error(d.Later())
	}
}

func TestRefuses(t *testing.T) {
	d, _ := disk.New(4)
	a := api.Area{First: 2, Len: 3}
	for _, c := range [][2]int{{-1, 1}, {0, -1}, {0, 193}, {193, 0}, {192, 1}, {math.MaxInt, math.MaxInt}, {math.MinInt, 1}, {1, math.MaxInt}, {128, 1}} {
		if s, e := area.Read(d, a, c[0], c[1]); s != "" || e != api.ErrInput {
			t.Error(c, e)
		}
	}
	if area.Write(d, a, -1, "x") != api.ErrInput || area.Write(d, a, 192, "x") != api.ErrInput || area.Write(d, api.Area{}, 0, "x") != api.ErrInput ||
		area.Write(nil, a, 0, "x") != api.ErrInput || d.Later() != 0 {
		t.Error("outside")
	}
	if area.Write(d, a, 127, "xy") != api.ErrInput || d.Later() != 1 {
		t.Error("sectors ahead of the one that is not there are written")
	}
	if s, e := area.Read(d, a, 127, 1); s != "x" || e != api.OK {
		t.Error(s, e)
	}
	if _, e := area.Read(d, api.Area{First: 0, Len: 0}, 0, 0); e != api.ErrInput {
		t.Error("no area")
	}
}
