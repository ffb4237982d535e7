package whole

import (
	"math"
	"reflect"
	"strings"
	"testing"

	"tarn/api"
	"tarn/disk"
	"tarn/frame"
	"tarn/gate"
	"tarn/journal"
	"tarn/member"
	"tarn/msg"
	"tarn/num"
	"tarn/sched"
	"tarn/take"
	"tarn/trace"
	"tarn/world"
)

// maker makes arguments: ordinary ones, edges, and wrong ones.
type maker struct {
	s    *sched.Sched
	pool map[reflect.Type][]reflect.Value // things that were made
}

func pick[T any](k *maker, l ...T) T { return l[k.s.Below(len(l))] }

func (k *maker) number() int {
	edges := []int{-1, math.MinInt, math.MaxInt, math.MaxInt - 31, 1 << 20, 1<<20 + 1, 1 << 30, 1<<40 + 7, 64, 63, 32, 400, 2000, -64}
	return pick(k, k.s.Below(8), k.s.Below(8), k.s.Below(70), pick(k, edges...))
}

func (k *maker) text() string {
	b := make([]byte, k.s.Below(200))
	for i := range b {
		b[i] = byte(k.s.Below(256))
	}
	junk := string(b)
	m := msg.Put(api.Msg{Kind: 1 + k.s.Below(22), From: k.s.Below(7), To: k.s.Below(7), Epoch: k.s.Below(3), Block: k.s.Below(64)})
	act := trace.Put(api.Act{What: k.s.Below(12), Who: k.s.Below(7)})
	return pick(k, "", "a", junk, strings.Repeat("a", 32), strings.Repeat("\x00", 32), strings.Repeat("b", 64), m, act, m+act+junk, frame.Put(junk), num.Text(junk), "61*", "ask 5 read 0 32", "p", "tick 0\nask 5 flush\n")
}

// value makes an argument of a type.
func (k *maker) value(t reflect.Type, deep int) reflect.Value {
	v := reflect.New(t).Elem()
	switch t.Kind() {
	case reflect.Int:
		v.SetInt(int64(k.number()))
	case reflect.Uint64, reflect.Uint32, reflect.Uint8:
		v.SetUint(pick(k, uint64(k.s.Below(9)), uint64(k.number()), math.MaxUint64))
	case reflect.Bool:
		v.SetBool(k.s.Below(2) == 0)
	case reflect.String:
		v.SetString(k.text())
	case reflect.Slice:
		for range k.s.Below(5) {
			if deep < 6 {
				v = reflect.Append(v, k.value(t.Elem(), deep+1))
			}
		}
	case reflect.Array:
		for i := range v.Len() {
			v.Index(i).Set(k.value(t.Elem(), deep+1))
		}
	case reflect.Struct:
		for i := range v.NumField() {
			if v.Field(i).CanSet() {
				v.Field(i).Set(k.value(t.Field(i).Type, deep+1))
			}
		}
	case reflect.Pointer:
		if l := k.pool[t]; len(l) > 0 && k.s.Below(4) > 0 {
			return l[k.s.Below(len(l))]
		}
		if k.s.Below(2) == 0 {
			v.Set(reflect.New(t.Elem()))
		}
	}
	return v
}

// slow tells of calls that take many rounds: they are called seldom.
func slow(f reflect.Value) bool {
	for i := range f.Type().NumIn() {
		if f.Type().In(i) == reflect.TypeFor[*world.World]() {
			return true
		}
	}
	return false
}

// call calls a function with made arguments; what it answers may be handed in later.
func (k *maker) call(f reflect.Value) {
	var in []reflect.Value
	for i := range f.Type().NumIn() {
		in = append(in, k.value(f.Type().In(i), 0))
	}
	for _, v := range f.Call(in) {
		if v.Kind() == reflect.Pointer && !v.IsNil() && len(k.pool[v.Type()]) < 40 {
			k.pool[v.Type()] = append(k.pool[v.Type()], v)
		}
	}
}

// callAll calls each function, and each method of things that are none, were not made, or were made.
func (k *maker) callAll(rare bool) {
	for _, c := range calls() {
		f := reflect.ValueOf(c)
		if slow(f) && !rare {
			continue
		}
		k.call(f)
	}
	for _, x := range things() {
		t := reflect.TypeOf(x)
		l := append([]reflect.Value{reflect.ValueOf(x)}, k.pool[t]...)
		if t.Kind() == reflect.Pointer {
			l = append(l, reflect.Zero(t))
		}
		for _, v := range l {
			for i := range v.NumMethod() {
				f := v.Method(i)
				if slow(f) && !rare {
					continue
				}
				k.call(f)
			}
		}
	}
}

// No call panics, and each ends, at all arguments (R1).
func TestEveryCall(t *testing.T) {
	for seed := range uint64(runs(4)) {
		k := &maker{s: sched.New(seed, api.Weights{}), pool: map[reflect.Type][]reflect.Value{}}
		d, _ := disk.New(40)
		j, _ := journal.Open(d)
		for _, x := range []any{
			d, j, member.Load(j, 3, 2, 0), fresh(seed), gate.New(5, api.Volume{Blocks: 8, Dirty: 3, Writes: 9}, 0), take.New(5, 1, []int{1}, []int{2}),
		} {
			k.pool[reflect.TypeOf(x)] = []reflect.Value{reflect.ValueOf(x)}
		}
		for i := range 60 {
			k.callAll(i%30 == 7)
		}
	}
}
