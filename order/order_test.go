package order_test

import (
	"math"
	"slices"
	"testing"

	"tarn/order"
)

func TestOrder(t *testing.T) {
	o := &order.Order{}
	for _, n := range []int{1, 2, -3, 2, math.MaxInt, 1} {
		o.Use(n)
	}
	want := []int{1, math.MaxInt, 2, -3}
	l := o.All()
	if !slices.Equal(l, want) || o.Len() != 4 {
		t.Error(l)
	}
	l[0] = 9
	if !o.Has(1) || o.Has(9) || !o.Has(-3) {
		t.Error("has")
	}
	if o.Drop(9) || !o.Drop(2) || o.Drop(2) || !slices.Equal(o.All(), []int{1, math.MaxInt, -3}) {
		t.Error("drop", o.All())
	}
	for _, want := range []int{-3, math.MaxInt, 1} {
		if n, ok := o.Pop(); n != want || !ok {
			t.Error(n)
		}
	}
	if n, ok := o.Pop(); n != 0 || ok || o.Len() != 0 || o.All() != nil {
		t.Error("none")
	}
}

func TestNone(t *testing.T) {
	var o *order.Order
	o.Use(1)
	n, ok := o.Pop()
	if o.Has(1) || o.Len() != 0 || o.Drop(1) || n != 0 || ok || o.All() != nil {
		t.Error("of none")
	}
}
