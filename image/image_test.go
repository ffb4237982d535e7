package image_test

import (
	"math"
	"strings"
	"testing"

	"tarn/api"
	"tarn/disk"
	"tarn/image"
	"tarn/num"
)

func TestPack(t *testing.T) {
	nought := strings.Repeat("\x00", 10)
	for s, want := range map[string]string{
		"": "", nought: "\x01\x15\x00", "a": "\x01\x02a", "aaa": "\x01\x06aaa", "aaaa": "\x01\x09a", "abc": "\x01\x06abc", "aaabbb": "\x01\x0caaabbb",
		"xaaaay": "\x01\x02x\x01\x09a\x01\x02y", "aaaabbbbb": "\x01\x09a\x01\x0bb", "aabbbbcc": "\x01\x04aa\x01\x09b\x01\x04cc", strings.Repeat("a", 200): "\x02\x01\x91a",
	} {
		if got := image.Pack(s); got != want {
			t.Errorf("%q: %x", s, got)
		}
		if got, e := image.Unpack(want); got != s || e != api.OK {
			t.Errorf("%x: %q %d", want, got, e)
		}
	}
}

func TestUnpackOfPack(t *testing.T) {
	seed := uint64(1)
	for range 300 {
		var b strings.Builder
		for b.Len() < int(seed>>40%3000) {
			seed = seed*6364136223846793005 + 1442695040888963407
			b.WriteString(strings.Repeat(string([]byte{byte(seed >> 33 % 3)}), 1+int(seed>>50%7)))
		}
		seed++
		if got, e := image.Unpack(image.Pack(b.String())); got != b.String() || e != api.OK {
			t.Fatal(e)
		}
	}
	for n, ok := range map[int]bool{api.MostImage: true, api.MostImage + 1: false} {
		s := strings.Repeat("ab", n)[:n]
		if got, e := image.Unpack(image.Pack(s)); (got == s) != ok || (e == api.OK) != ok || !ok && e != api.ErrForm {
			t.Error(n, e)
		}
	}
}

func TestUnpackRefuses(t *testing.T) {
	for i, c := range []struct {
		s    string
		want api.Errno
	}{
		{"\x00", api.ErrForm}, {"\x01\x01a", api.ErrForm}, {"\x01\x02", api.ErrShort}, {"\x01\x06ab", api.ErrShort}, {"\x01\x09", api.ErrShort}, {"\x01", api.ErrShort},
		{"\x09", api.ErrForm}, {"\x01\x00", api.ErrForm}, {"\x02\x00\x09a", api.ErrForm}, {num.Put(math.MaxUint64) + "a", api.ErrForm}, {num.Put(2 * (api.MostImage + 1)), api.ErrForm},
		{num.Put(2*api.MostImage+1) + "a\x01\x02b", api.ErrForm}, {num.Put(2*api.MostImage+1) + "a\x01", api.ErrShort}, {"\x01\x09a\x00", api.ErrForm}, {num.Put(2 * api.MostImage), api.ErrShort},
	} {
		if got, e := image.Unpack(c.s); got != "" || e != c.want {
			t.Error(i, e, c.want)
		}
	}
	if s, e := image.Unpack(num.Put(2*2+1) + "a" + num.Put(2*1+1) + "b"); s != "aab" || e != api.OK {
		t.Error("short runs", s, e)
	}
}

func TestOfLay(t *testing.T) {
	d, _ := disk.New(3)
	d.Write(1, "sector")
	s := image.Of(d)
	if want := "\x02\x00"; strings.HasPrefix(s, want) || s != "\x01\x81\x00\x01\x0csector\x01\xf5\x00" {
		t.Errorf("%x", s)
	}
	other, _ := disk.New(3)
	if image.Lay(other, s) != api.OK || other.Later() != 0 || image.Of(other) != s {
		t.Error("laid, and sure")
	}
	other.Crash(0)
	if got, _ := other.Read(1); got[:6] != "sector" {
		t.Error("sure")
	}
	two, _ := disk.New(2)
	if image.Lay(two, s) != api.ErrInput || image.Lay(nil, s) != api.ErrInput || image.Lay(nil, "") != api.ErrInput || image.Lay(nil, "\x00") != api.ErrForm || image.Lay(two, "\x01") != api.ErrShort || two.Later() != 0 {
		t.Error("refused")
	}
	if image.Lay(two, "") != api.ErrInput || image.Of(nil) != "" {
		t.Error("no sectors")
	}
	if great, _ := disk.New(api.MostSectors); image.Lay(great, image.Of(great)) != api.ErrForm {
		t.Error("above MostImage")
	}
}
