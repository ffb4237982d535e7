package vote_test

import (
	"math"
	"testing"

	"tarn/vote"
)

func TestVotes(t *testing.T) {
	v := vote.None()
	if v.Many() != 0 || v.Won() {
		t.Error("none")
	}
	one := v.With(2).With(2).With(3).With(-1).With(math.MaxInt)
	if one.Many() != 1 || one.Won() || v.Many() != 0 {
		t.Error("one")
	}
	if two := one.With(0); two.Many() != 2 || !two.Won() || one.Many() != 1 || two.With(1).Many() != 3 {
		t.Error("two of three")
	}
}

func TestMay(t *testing.T) {
	for _, c := range []struct {
		term, voted, asked, who int
		newer, want             bool
	}{
		{3, -1, 3, 1, true, true}, {3, -7, 3, 1, true, true}, {3, 1, 3, 1, true, true}, {3, 0, 3, 1, true, false}, {3, 0, 4, 1, true, true},
		{3, -1, 2, 1, true, false}, {3, -1, 3, 1, false, false}, {3, 0, 4, 1, false, false}, {3, -1, 3, 3, true, false}, {3, -1, 9, -1, true, false},
		{0, -1, 0, 0, true, true}, {0, -1, 0, 2, true, true},
	} {
		if vote.May(c.term, c.voted, c.asked, c.who, c.newer) != c.want {
			t.Error(c)
		}
	}
}
