package desk_test

import (
	"strings"
	"testing"

	"tarn/api"
	"tarn/desk"
	"tarn/script"
)

func setup() api.Setup {
	return api.Setup{Volume: api.Volume{Blocks: 8, Dirty: 4, Writes: 100}, Room: 4}
}

func run(t *testing.T, s string, rounds int) string {
	t.Helper()
	text, at, e := desk.Run(s, setup(), rounds)
	if at != 0 || e != api.OK {
		t.Fatal(at, e)
	}
	return text
}

func TestRunOfNothing(t *testing.T) {
	want := `node 0 promised 0 has none term 0 decided 0
node 1 promised 0 has none term 0 decided 0
node 2 promised 0 has none term 0 decided 0
node 3 promised 0 has none
node 4 promised 0 has none
gate 5 serves none waits 0 dirty 0
gate 6 serves none waits 0 dirty 0
under way 0 right
`
	if got := run(t, "", -3); got != want {
		t.Error(got)
	}
}

func TestRun(t *testing.T) {
	got := run(t, `# what is not done is told first
crash 6 0 0
crash 6 0 0
wipe 4
ask 6 flush
take 5 3 4 chain 0 1
ask 5 write 32 61* 62*
ask 5 write 64 sure 63*
ask 5 read 64 32
ask 5 read 1 32
crash 2 0 0
`, 40)
	want := `not done: crash 6 0 0
not done: wipe 4
not done: ask 6 flush
1 at 5: write 32 61* 62*
2 at 5: write 64 sure 63*
3 at 5: read 64 32
4 at 5: read 1 32
4 at 5: input
1 at 5: ok
2 at 5: ok
3 at 5: ok 63*
node 0 promised 1 has 1 by 5 mirrors [3 4] chain [0 1] term 1 decided 3
  blocks 2: 1.3 63*
node 1 promised 1 has 1 by 5 mirrors [3 4] chain [0 1] term 1 decided 3
  blocks 2: 1.3 63*
node 2 down
node 3 promised 1 has 1 by 5 mirrors [3 4] chain [0 1]
  dirty 1: 1.1 61*
node 4 promised 1 has 1 by 5 mirrors [3 4] chain [0 1]
  dirty 1: 1.1 61*
gate 5 serves 1 by 5 mirrors [3 4] chain [0 1] waits 0 dirty 1
gate 6 down
`
	if !strings.HasPrefix(got, want) || !strings.HasSuffix(got, " right\n") || strings.Count(got, "\n") != strings.Count(want, "\n")+1 {
		t.Error(got)
	}
}

func TestRunRefuses(t *testing.T) {
	for _, c := range []struct {
		s    string
		v    api.Setup
		at   int
		want api.Errno
	}{
		{"tick 0\nwalk\n", setup(), 2, api.ErrLine}, {strings.Repeat("\n", 700), setup(), 0, api.ErrMuch}, {"tick 0", api.Setup{}, 0, api.ErrInput}, {"x", api.Setup{}, 1, api.ErrLine},
	} {
		if text, at, e := desk.Run(c.s, c.v, 3); text != "" || at != c.at || e != c.want {
			t.Error(c.want, text, at, e)
		}
	}
}

func TestDraw(t *testing.T) {
	for seed := range uint64(6) {
		s := desk.Draw(seed, 300, 8)
		l, _, e := script.Acts(s)
		if e != api.OK || len(l) != 300 || s != desk.Draw(seed, 300, 8) || !strings.HasPrefix(s, desk.Draw(seed, 100, 8)) {
			t.Error(seed, len(l), e)
		}
		one, two := run(t, s, 50), run(t, s, 50)
		if one != two || !strings.HasSuffix(one, " right\n") {
			t.Error(one)
		}
	}
	if desk.Draw(1, 0, 8) != "" || desk.Draw(1, -9, 8) != "" || strings.Count(desk.Draw(1, 1<<40, 8), "\n") != api.MostLines {
		t.Error("MostLines at most")
	}
	if desk.Draw(1, 50, -1) != desk.Draw(1, 50, 1) || desk.Draw(1, 50, 99) != desk.Draw(1, 50, 64) {
		t.Error("blocks from 1 to MostBlocks")
	}
}
