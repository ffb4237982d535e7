// Package past is what a history did with a block; layers flat, search and pledge look at it.
package past

import (
	"tarn/api"
	"tarn/need"
)

// answer is where in a history something was told; false: it was not.
type answer struct {
	at int
	ok bool
}

// answers is where each thing was told first.
func answers(l []api.Event) map[int]answer {
	m := map[int]answer{}
	for i, e := range l {
		if e.Answer && !m[e.ID].ok {
			m[e.ID] = answer{i, true}
		}
	}
	return m
}

// Uses is what a history of a volume of so many blocks did with a block, in the order in which it was asked for: writings that were not refused, readings that were told well.
func Uses(l []api.Event, blocks, block int) []api.Use {
	told := answers(l)
	var all []api.Use
	for i, e := range l {
		if e.Answer {
			continue
		}
		for k, p := range need.Parts(e.Ask, blocks) {
			if p.Block != block {
				continue
			}
			if u, ok := use(l, told[e.ID], k, p); ok {
				u.From = i
				all = append(all, u)
			}
		}
	}
	return all
}

// use is what the k-th part of something came to; false: it did nothing.
func use(l []api.Event, a answer, k int, p api.Part) (api.Use, bool) {
	u := api.Use{Write: p.Write, Value: p.Data, To: api.Never}
	if !a.ok {
		return u, p.Write
	}
	e := l[a.at]
	if e.Err != api.OK {
		return api.Use{}, false
	}
	u.To = a.at
	if !p.Write {
		from := min(k*api.BlockBytes, len(e.Data))
		u.Value = e.Data[from:min(from+api.BlockBytes, len(e.Data))]
	}
	return u, true
}
