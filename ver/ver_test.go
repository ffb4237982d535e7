package ver_test

import (
	"math"
	"testing"

	"tarn/api"
	"tarn/ver"
)

const step = api.MostCount + 1

func TestMayOf(t *testing.T) {
	for _, c := range []struct {
		epoch, count int
		want         uint64
	}{
		{1, 1, step + 1}, {3, 7, 3*step + 7}, {api.MostEpoch, api.MostCount, api.MostEpoch*step + api.MostCount},
		{0, 1, 0}, {1, 0, 0}, {-1, 1, 0}, {1, -1, 0}, {api.MostEpoch + 1, 1, 0}, {1, api.MostCount + 1, 0}, {math.MinInt, math.MaxInt, 0},
	} {
		v := ver.Of(c.epoch, c.count)
		if v != c.want || ver.May(c.epoch, c.count) != (c.want > 0) {
			t.Error(c, v)
		}
		if c.want > 0 && (ver.Epoch(v) != c.epoch || ver.Count(v) != c.count) {
			t.Error(c, ver.Epoch(v), ver.Count(v))
		}
	}
	for _, v := range []uint64{0, 5, step, 2 * step, (api.MostEpoch + 1) * step, (api.MostEpoch+1)*step + 1, math.MaxUint64} {
		if ver.Epoch(v) != 0 || ver.Count(v) != 0 {
			t.Error("none", v)
		}
	}
}

func TestNextFirst(t *testing.T) {
	for _, c := range []struct {
		v    uint64
		most int
		want uint64
	}{
		{ver.Of(3, 7), 8, ver.Of(3, 8)}, {ver.Of(3, 7), 7, 0}, {ver.Of(3, 7), math.MaxInt, ver.Of(3, 8)}, {ver.Of(3, 7), -1, 0}, {0, 9, 0}, {5, 9, 0},
		{ver.Of(1, api.MostCount), math.MaxInt, 0}, {ver.Of(1, api.MostCount-1), math.MaxInt, ver.Of(1, api.MostCount)},
	} {
		if v, ok := ver.Next(c.v, c.most); v != c.want || ok != (c.want > 0) {
			t.Error(c, v)
		}
	}
	for _, c := range []struct {
		epoch, most int
		want        uint64
	}{{1, 1, step + 1}, {1, 0, 0}, {0, 1, 0}, {api.MostEpoch, math.MaxInt, api.MostEpoch*step + 1}, {api.MostEpoch + 1, 1, 0}, {1, -1, 0}} {
		if v, ok := ver.First(c.epoch, c.most); v != c.want || ok != (c.want > 0) {
			t.Error(c, v)
		}
	}
}
