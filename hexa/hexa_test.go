package hexa_test

import (
	"strings"
	"testing"

	"tarn/api"
	"tarn/hexa"
)

func TestPutGet(t *testing.T) {
	if hexa.Put("") != "" || hexa.Put("\x00\x0f\xa5\xff") != "000fa5ff" {
		t.Error("put")
	}
	all := ""
	for i := range 256 {
		all += string([]byte{byte(i)})
	}
	if s, at, e := hexa.Get(hexa.Put(all)); s != all || at != 0 || e != api.OK {
		t.Error("all bytes")
	}
	if s, _, e := hexa.Get("aFAf"); s != "\xaf\xaf" || e != api.OK {
		t.Error("great letters")
	}
	for s, where := range map[string]int{"0": 0, "001": 2, "0g": 1, "g0": 0, "00 ": 2, "00x1y": 2, "0\xff": 1, "00@0": 2, "00G0": 2, "00`0": 2, "00/0": 2, "00:0": 2, "00*": 2, "0z1": 1} {
		if b, at, e := hexa.Get(s); b != "" || at != where || e != api.ErrHex {
			t.Error(s, at, e)
		}
	}
}

func TestBlock(t *testing.T) {
	for s, want := range map[string]string{
		"": "", "a": "61", "ab": "6162", "aa": "61*", "abb": "6162*", "aab": "616162", strings.Repeat("\x00", 32): "00*", "a" + strings.Repeat("\x00", 31): "6100*",
		strings.Repeat("a", 31) + "b": strings.Repeat("61", 31) + "62", strings.Repeat("ab", 16): strings.Repeat("6162", 16), strings.Repeat("a", 40): "61*",
	} {
		if got := hexa.Block(s); got != want {
			t.Errorf("%q: %s", s, got)
		}
	}
}

func TestLong(t *testing.T) {
	for _, s := range []string{strings.Repeat("\x00", 32), "a" + strings.Repeat("b", 31), strings.Repeat("ab", 16)} {
		if got, at, e := hexa.Long(hexa.Block(s)); got != s || at != 0 || e != api.OK {
			t.Errorf("%q: %q", s, got)
		}
	}
	for s, want := range map[string]string{"6162*": "a" + strings.Repeat("b", 31), strings.Repeat("61", 32) + "*": strings.Repeat("a", 32), "6161*": strings.Repeat("a", 32), "4A*": strings.Repeat("J", 32)} {
		if got, _, e := hexa.Long(s); got != want || e != api.OK {
			t.Errorf("%s: %q", s, got)
		}
	}
	for s, where := range map[string]int{
		"": 0, "*": 1, "61": 2, "6": 0, "61**": 2, "6*1": 1, "6g*": 1, "616*": 2, strings.Repeat("61", 33): 66, strings.Repeat("61", 33) + "*": 67, strings.Repeat("61", 31): 62,
	} {
		if got, at, e := hexa.Long(s); got != "" || at != where || e != api.ErrHex {
			t.Error(s, at, e)
		}
	}
}
