package whole

import (
	"strings"
	"testing"

	"tarn/admit"
	"tarn/api"
	"tarn/calm"
	"tarn/sched"
	"tarn/search"
)

// With trims values are there more than once: an order is sought (T1).
func TestOrders(t *testing.T) {
	sought := 0
	for i := range runs(60) {
		seed := uint64(i) + 1<<32
		w := fresh(seed)
		s := sched.New(seed, weights(seed))
		for range 6 {
			admit.Play(w, s.Acts(40, blocks))
			if s.Below(3) == 0 {
				serve(t, seed, w, s)
			}
		}
		for _, n := range []int{5, 6} {
			calm.Serve(w, n, waiting(w, n), []int{i % 5}, []int{(i + 1) % 5})
			readAll(t, seed, w, n)
		}
		l := w.History().All()
		for b := range blocks {
			u := search.Uses(l, blocks, b)
			if len(u) <= api.MostUses {
				sought += len(u)
			}
			if !search.Order(u, strings.Repeat("\x00", 32)) {
				t.Fatal("seed", seed, "block", b, u)
			}
		}
	}
	if sought < 4*runs(60) {
		t.Error("too little was sought for this to tell anything", sought)
	}
	t.Log(sought)
}
