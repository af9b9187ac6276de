package kv

import (
	"iter"
	"math"

	"fascicle/api"
	"fascicle/mem"
)

const all = math.MaxInt // of the pairs

// side is where pairs are read from, in order: the mem, or a run.
type side interface {
	Scan(from, to string, most int) ([]api.Pair, api.Errno)
}

// memSide is the mem as a side; looking into it has no error.
type memSide struct{ mem *mem.Mem }

func (s memSide) Scan(from, to string, most int) ([]api.Pair, api.Errno) {
	return s.mem.Scan(from, to, most), api.OK
}

// sides answers all sides of the store, the youngest first.
func (k *Kv) sides() []side {
	return append([]side{memSide{k.mem}}, k.runSides()...)
}

// runSides answers its runs, the youngest first.
func (k *Kv) runSides() []side {
	l := make([]side, 0, len(k.runs))
	for i := len(k.runs) - 1; i >= 0; i-- {
		l = append(l, k.runs[i])
	}
	return l
}

// there answers the first most of the keys' pairs that are not Gone, and whose keys are within from and to, in order.
func there(sides []side, from, to string, most int) ([]api.Pair, api.Errno) {
	if most < 1 {
		return nil, api.OK
	}
	var l []api.Pair
	for p, e := range merged(sides, from, to) {
		if e != api.OK {
			return nil, e
		}
		if p.Gone {
			continue
		}
		l = append(l, p)
		// Behind the last one no side is read on: what is spoilt there is not wanted.
		if len(l) == most {
			break
		}
	}
	return l, api.OK
}

// merged goes through the keys' pairs whose keys are within from and to, in order, each of the youngest side that has one; and at last, where one can't be read, none and why.
func merged(sides []side, from, to string) iter.Seq2[api.Pair, api.Errno] {
	return func(yield func(p api.Pair, e api.Errno) bool) {
		var h heap
		for age, s := range sides {
			if e := h.read(s, age, from, to); e != api.OK {
				yield(api.Pair{}, e)
				return
			}
		}
		for len(h) > 0 {
			p := h[0].pair
			if !yield(p, api.OK) {
				return
			}
			if e := h.pass(p.Key, to); e != api.OK {
				yield(api.Pair{}, e)
				return
			}
		}
	}
}
