package crc_test

import (
	"hash/crc32"
	"testing"

	"tarn/crc"
)

func TestOf(t *testing.T) {
	if got := crc.Of("123456789"); got != 0xcbf43926 {
		t.Errorf("%x", got)
	}
	if crc.Of("") != 0 || crc.More(5, "") != 5 {
		t.Error("of nothing")
	}
	s := ""
	for i := range 600 {
		s += string([]byte{byte(i * 37), byte(i >> 1)})
		if crc.Of(s) != crc32.ChecksumIEEE([]byte(s)) {
			t.Fatalf("of %d bytes", len(s))
		}
	}
}

func TestMoreGoesOn(t *testing.T) {
	whole := crc.More(0xffffffff, "one and two")
	if crc.More(crc.More(0xffffffff, "one"), " and two") != whole || ^whole != crc.Of("one and two") {
		t.Error("in two pieces")
	}
	if crc.More(0, "\x80") != 0xedb88320 {
		t.Error("the last bit")
	}
}
