package frame_test

import (
	"slices"
	"testing"

	"tarn/api"
	"tarn/frame"
	"tarn/num"
)

func TestGetOfPut(t *testing.T) {
	for _, n := range []int{0, 1, 255, 256, api.MostFrame} {
		s := string(make([]byte, n))
		got, e := frame.Get(frame.Put(s))
		if got != s || e != api.OK {
			t.Error(n, e)
		}
	}
	if frame.Put(string(make([]byte, api.MostFrame+1))) != "" {
		t.Error("above MostFrame")
	}
	if frame.Put("123456789") != "\x01\x09123456789\xcb\xf4\x39\x26" {
		t.Errorf("%x", frame.Put("123456789"))
	}
}

func TestGetRefuses(t *testing.T) {
	f := frame.Put("abc")
	for _, c := range []struct {
		s    string
		want api.Errno
	}{
		{"", api.ErrShort}, {f[:len(f)-1], api.ErrShort}, {f[:3], api.ErrShort}, {f + "x", api.ErrForm},
		{f[:len(f)-1] + "\x00", api.ErrCheck}, {f[:len(f)-1] + "\x00x", api.ErrCheck},
		{"\x01\x03abd" + f[5:], api.ErrCheck}, {"\x02\x00\x03", api.ErrForm}, {"\x09", api.ErrForm},
		{num.Text(string(make([]byte, api.MostFrame+1))) + "1234", api.ErrForm},
	} {
		if got, e := frame.Get(c.s); got != "" || e != c.want {
			t.Errorf("%x: %d, not %d", c.s, e, c.want)
		}
	}
}

func TestAll(t *testing.T) {
	s := frame.Put("a") + frame.Put("") + frame.Put("bc")
	l, n := frame.All(s)
	if !slices.Equal(l, []string{"a", "", "bc"}) || n != len(s) {
		t.Error(l, n)
	}
	for _, tail := range []string{"x", "\x01", frame.Put("de")[:5], "\x01\x01a1234"} {
		l, n = frame.All(s + tail + frame.Put("f"))
		if len(l) != 3 || n != len(s) {
			t.Errorf("behind %x: %q %d", tail, l, n)
		}
	}
	if l, n = frame.All(""); l != nil || n != 0 {
		t.Error("of nothing")
	}
}
