package num_test

import (
	"math"
	"slices"
	"testing"

	"tarn/api"
	"tarn/num"
)

func TestPut(t *testing.T) {
	for _, c := range []struct {
		n    uint64
		want string
	}{
		{0, "\x00"}, {1, "\x01\x01"}, {255, "\x01\xff"}, {256, "\x02\x01\x00"}, {300, "\x02\x01\x2c"},
		{math.MaxUint64, "\x08\xff\xff\xff\xff\xff\xff\xff\xff"}, {1 << 56, "\x08\x01\x00\x00\x00\x00\x00\x00\x00"},
	} {
		if got := num.Put(c.n); got != c.want {
			t.Errorf("Put(%d) = %x, not %x", c.n, got, c.want)
		}
		s := num.From(c.want)
		if got := s.Num(math.MaxUint64); got != c.n || s.End() != api.OK {
			t.Errorf("Num of %x = %d, %d", c.want, got, s.Err())
		}
	}
}

func TestOthersAsBytes(t *testing.T) {
	for _, c := range []struct{ got, want string }{
		{num.Word(0x01020304), "\x01\x02\x03\x04"},
		{num.Word(0), "\x00\x00\x00\x00"},
		{num.Text(""), "\x00"},
		{num.Text("abc"), "\x01\x03abc"},
		{num.Bool(true), "y"},
		{num.Bool(false), "n"},
		{num.List(nil), "\x00"},
		{num.List([]int{0, -5, 300}), "\x01\x03\x00\x00\x02\x01\x2c"},
	} {
		if c.got != c.want {
			t.Errorf("%x, not %x", c.got, c.want)
		}
	}
}

func TestTake(t *testing.T) {
	s := num.From("abc")
	if s.Take(2) != "ab" || s.Left() != 1 || s.Take(0) != "" || s.Err() != api.OK {
		t.Error("two of three")
	}
	if s.Take(2) != "" || s.Err() != api.ErrShort || s.Left() != 0 {
		t.Error("more than there are")
	}
	s.Wrong(api.ErrForm)
	if s.Take(1) != "" || s.Err() != api.ErrShort {
		t.Error("the first error stays")
	}
	s = num.From("abc")
	if s.Take(-1) != "" || s.Err() != api.ErrShort {
		t.Error("below 0")
	}
}

func TestNum(t *testing.T) {
	for _, c := range []struct {
		s     string
		limit uint64
		want  api.Errno
	}{
		{"", 9, api.ErrShort}, {"\x01", 9, api.ErrShort}, {"\x09", 9, api.ErrForm}, {"\xff", 9, api.ErrForm},
		{"\x01\x00", 9, api.ErrForm}, {"\x02\x00\x01", 999, api.ErrForm}, {"\x01\x0a", 9, api.ErrForm},
		{"\x01\x09", 9, api.OK}, {"\x00", 0, api.OK}, {"\x02\x01", 9, api.ErrShort},
	} {
		s := num.From(c.s)
		if got := s.Num(c.limit); s.Err() != c.want || c.want != api.OK && got != 0 {
			t.Errorf("Num of %x: %d, %d", c.s, got, s.Err())
		}
	}
	s := num.From("\x01\x01")
	if s.Int(-3) != 0 || s.Err() != api.ErrForm {
		t.Error("Int of a limit below 0")
	}
	s = num.From("\x00")
	if s.Int(-3) != 0 || s.Err() != api.OK {
		t.Error("Int of 0")
	}
}

func TestWordBoolText(t *testing.T) {
	s := num.From("\x01\x02\x03\x04yn")
	if s.Word() != 0x01020304 || !s.Bool() || s.Bool() || s.End() != api.OK {
		t.Error("word, truths")
	}
	s = num.From("\x01\x02\x03")
	if s.Word() != 0 || s.Err() != api.ErrShort {
		t.Error("a short word")
	}
	s = num.From("Y")
	if s.Bool() || s.Err() != api.ErrForm {
		t.Error("another letter")
	}
	s = num.From(num.Text("abc"))
	if s.Text(2) != "" || s.Err() != api.ErrForm {
		t.Error("a long text")
	}
	long := string(make([]byte, api.MostText+1))
	s = num.From(num.Text(long))
	if s.Text(api.MostText+1) != "" || s.Err() != api.ErrForm {
		t.Error("above MostText")
	}
	s = num.From(num.Text(long[1:]))
	if len(s.Text(math.MaxInt)) != api.MostText || s.End() != api.OK {
		t.Error("MostText")
	}
}

func TestList(t *testing.T) {
	s := num.From(num.List([]int{1, 2, 3}))
	if l := s.List(3, 3); !slices.Equal(l, []int{1, 2, 3}) || s.End() != api.OK {
		t.Error("three", l, s.Err())
	}
	s = num.From(num.List([]int{1, 2, 3}))
	if l := s.List(2, 3); l != nil || s.Err() != api.ErrForm {
		t.Error("too many")
	}
	s = num.From(num.List([]int{1, 2, 4}))
	if l := s.List(3, 3); l != nil || s.Err() != api.ErrForm {
		t.Error("too great")
	}
	s = num.From(num.Put(1<<40) + "\x00")
	if l := s.List(math.MaxInt, 3); l != nil || s.Err() != api.ErrShort {
		t.Error("far too short")
	}
}

func TestEndAndWrong(t *testing.T) {
	s := num.From("a")
	s.Wrong(api.OK)
	if s.Err() != api.OK || s.End() != api.ErrForm || s.Err() != api.ErrForm || s.Left() != 0 {
		t.Error("bytes are left")
	}
	s = num.From("abc")
	s.Wrong(api.ErrBusy)
	if s.Left() != 0 || s.End() != api.ErrBusy || s.Num(9) != 0 || s.Word() != 0 || s.Bool() || s.Text(9) != "" || s.List(1, 1) != nil {
		t.Error("with an error nothing is left")
	}
}

func TestNone(t *testing.T) {
	var s *num.Source
	s.Wrong(api.ErrForm)
	if s.Err() != api.ErrShort || s.End() != api.ErrShort || s.Left() != 0 || s.Take(0) != "" || s.Take(1) != "" ||
		s.Num(1) != 0 || s.Int(1) != 0 || s.Word() != 0 || s.Text(1) != "" || s.Bool() || s.List(1, 1) != nil {
		t.Error("of none")
	}
}
