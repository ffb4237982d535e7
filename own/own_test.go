package own_test

import (
	"reflect"
	"testing"

	"tarn/api"
	"tarn/own"
)

func TestNothingIsShared(t *testing.T) {
	full := func() api.Conf { return api.Conf{Epoch: 1, By: 5, Count: 2, Mirrors: []int{3}, Chain: []int{0, 1}} }
	was := api.State{Epoch: 7, Active: full(), Next: full(), Seen: [api.Gates]int{1, 2}}
	s, c := own.State(was), own.Cmd(api.Cmd{Kind: 1, Conf: was.Active})
	if !reflect.DeepEqual(s, was) || !reflect.DeepEqual(c.Conf, full()) || c.Kind != 1 {
		t.Error("the same", s, c)
	}
	for _, x := range []api.Conf{was.Active, was.Next} {
		x.Mirrors[0], x.Chain[1] = 9, 9
	}
	if !reflect.DeepEqual(s.Active, full()) || !reflect.DeepEqual(s.Next, full()) || !reflect.DeepEqual(c.Conf, full()) {
		t.Error("shared")
	}
	if x := own.Conf(api.Conf{}); x.Mirrors != nil || x.Chain != nil {
		t.Error("none")
	}
}
