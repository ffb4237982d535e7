package pend_test

import (
	"math"
	"slices"
	"testing"

	"tarn/pend"
)

func TestPend(t *testing.T) {
	p := pend.Of([]int{2, 1, 2, -1, 5, math.MaxInt})
	if !slices.Equal(p.Left(), []int{1, 2}) || p.Done() {
		t.Error(p.Left())
	}
	q, ok := p.Got(1)
	if !ok || !slices.Equal(q.Left(), []int{2}) || !slices.Equal(p.Left(), []int{1, 2}) {
		t.Error("without one", q)
	}
	for _, n := range []int{1, 0, -1, 5, math.MinInt} {
		if r, ok := q.Got(n); ok || r != q {
			t.Error("it need not", n)
		}
	}
	r, ok := q.Got(2)
	if !ok || !r.Done() || r.Left() != nil || r != pend.Of(nil) {
		t.Error("nobody must")
	}
}
