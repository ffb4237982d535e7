package arc_test

import (
	"fmt"
	"math"
	"testing"

	"tarn/api"
	"tarn/arc"
)

// use uses numbers, and tells which are kept no more.
func use(a *arc.Arc, l ...int) []int {
	var gone []int
	for _, n := range l {
		if g, ok := a.Use(n); ok {
			gone = append(gone, g)
		}
	}
	return gone
}

func want(t *testing.T, a *arc.Arc, wish int, s string) {
	t.Helper()
	if got := fmt.Sprint(a.Lists()); got != s || a.Want() != wish {
		t.Errorf("%s %d, not %s %d", got, a.Want(), s, wish)
	}
}

func TestRoom(t *testing.T) {
	a := arc.New(1)
	if gone := use(a, 1, 2); len(gone) != 1 || gone[0] != 1 {
		t.Error(gone)
	}
	a = arc.New(0)
	if gone := use(a, 1, 1, 2); gone != nil || a.Len() != 0 {
		t.Error("no room")
	}
	want(t, a, 0, "[[] [] [] []]")
	a = arc.New(-5)
	if use(a, 1); a.Len() != 0 {
		t.Error("below 0")
	}
	a = arc.New(math.MaxInt)
	for n := range 200 {
		a.Use(n)
	}
	if a.Len() != api.MostArc {
		t.Error("above MostArc", a.Len())
	}
}

func TestUse(t *testing.T) {
	a := arc.New(3)
	use(a, 1, 2, 1)
	want(t, a, 0, "[[2] [1] [] []]")
	if gone := use(a, 3, 4); fmt.Sprint(gone) != "[2]" {
		t.Error(gone)
	}
	want(t, a, 0, "[[4 3] [1] [2] []]")
	if gone := use(a, 2); fmt.Sprint(gone) != "[3]" {
		t.Error(gone)
	}
	want(t, a, 1, "[[4] [2 1] [3] []]")
	if gone := use(a, 5); fmt.Sprint(gone) != "[1]" {
		t.Error("once has just as many as are wanted", gone)
	}
	want(t, a, 1, "[[5 4] [2] [3] [1]]")
	if gone := use(a, 1); fmt.Sprint(gone) != "[4]" {
		t.Error(gone)
	}
	want(t, a, 0, "[[5] [1 2] [4 3] []]")
}

func TestAllFull(t *testing.T) {
	a := arc.New(2)
	use(a, 1, 1, 2, 2)
	want(t, a, 0, "[[] [2 1] [] []]")
	if gone := use(a, 3); fmt.Sprint(gone) != "[1]" {
		t.Error("all is c at least", gone)
	}
	want(t, a, 0, "[[3] [2] [] [1]]")
	use(a, 3)
	if gone := use(a, 4); fmt.Sprint(gone) != "[2]" {
		t.Error(gone)
	}
	want(t, a, 0, "[[4] [3] [] [2 1]]")
	use(a, 4)
	if gone := use(a, 5); fmt.Sprint(gone) != "[3]" {
		t.Error("all is 2c at least", gone)
	}
	want(t, a, 0, "[[5] [4] [] [3 2]]")
	b := arc.New(2)
	if gone := use(b, 1, 2, 3, 4); fmt.Sprint(gone) != "[1 2]" {
		t.Error("once is full: it loses its last", gone)
	}
	want(t, b, 0, "[[4 3] [] [] []]")
}

func TestOnceWasLosesItsLast(t *testing.T) {
	a := arc.New(2)
	use(a, 1, 1, 2, 3)
	want(t, a, 0, "[[3] [1] [2] []]")
	if gone := use(a, 4); fmt.Sprint(gone) != "[3]" {
		t.Error(gone)
	}
	want(t, a, 0, "[[4] [1] [3] []]")
}

func TestJustAsWanted(t *testing.T) {
	a := arc.New(3)
	use(a, 1, 1, 2, 3, 4, 2, 3)
	want(t, a, 2, "[[4] [3 2] [] [1]]")
	if gone := use(a, 1); fmt.Sprint(gone) != "[4]" {
		t.Error("it was often", gone)
	}
	want(t, a, 1, "[[] [1 3 2] [4] []]")
	b := arc.New(2)
	use(b, 1, 1, 2, 3, 2)
	want(t, b, 1, "[[3] [2] [] [1]]")
	if gone := use(b, 4); fmt.Sprint(gone) != "[2]" {
		t.Error("it was not", gone)
	}
	want(t, b, 1, "[[4 3] [] [] [2 1]]")
}

func TestDrop(t *testing.T) {
	a := arc.New(2)
	use(a, 1, 1, 2, 3)
	if a.Drop(2) || a.Drop(9) {
		t.Error("it is not kept")
	}
	want(t, a, 0, "[[3] [1] [2] []]")
	if !a.Drop(3) || !a.Drop(1) || a.Drop(1) || a.Len() != 0 {
		t.Error("drop")
	}
	want(t, a, 0, "[[] [] [2] []]")
	l := a.Lists()
	l[2][0] = 7
	want(t, a, 0, "[[] [] [2] []]")
}

func TestNeverAboveTheRoom(t *testing.T) {
	seed := uint64(3)
	for room := range 6 {
		a := arc.New(room)
		kept := map[int]bool{}
		for range 5000 {
			seed = seed*6364136223846793005 + 1442695040888963407
			n := int(seed>>33) % 14
			if seed>>40%9 == 0 {
				if a.Drop(n) != kept[n] {
					t.Fatal("dropped")
				}
				delete(kept, n)
				continue
			}
			if gone, ok := a.Use(n); ok {
				if !kept[gone] || gone == n {
					t.Fatal("what goes was kept")
				}
				delete(kept, gone)
			}
			if room > 0 {
				kept[n] = true
			}
			if a.Len() > room || a.Len() != len(kept) || a.Has(n) != (room > 0) || a.Want() < 0 || a.Want() > room {
				t.Fatal(room, a.Len())
			}
		}
	}
}

func TestNone(t *testing.T) {
	var a *arc.Arc
	n, ok := a.Use(1)
	if n != 0 || ok || a.Has(1) || a.Len() != 0 || a.Want() != 0 || a.Drop(1) || fmt.Sprint(a.Lists()) != "[[] [] [] []]" {
		t.Error("of none")
	}
}
