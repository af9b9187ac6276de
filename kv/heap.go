package kv

import "fascicle/api"

// head is the first pair of a side that was not gone by yet.
type head struct {
	pair api.Pair
	side side
	age  int // how many sides are younger
}

// ahead answers whether x stands ahead of y: by their keys, and of one key the younger one.
func (x head) ahead(y head) bool {
	if x.pair.Key != y.pair.Key {
		return x.pair.Key < y.pair.Key
	}
	return x.age < y.age
}

// heap has heads; none stands ahead of its parent, the one at half of its place: so the first one is ahead of all.
type heap []head

// read puts the head of a side from that key on, if it has one.
func (h *heap) read(s side, age int, from, to string) api.Errno {
	l, e := s.Scan(from, to, 1)
	for _, p := range l {
		h.push(head{pair: p, side: s, age: age})
	}
	return e
}

// pass goes by the key, on all sides that have it.
func (h *heap) pass(key, to string) api.Errno {
	for len(*h) > 0 && (*h)[0].pair.Key == key {
		x := h.pop()
		// No key stands between one and that with a byte 0 behind it.
		if e := h.read(x.side, x.age, key+"\x00", to); e != api.OK {
			return e
		}
	}
	return api.OK
}

// push puts x where it belongs.
func (h *heap) push(x head) {
	l := append(*h, x)
	for i := len(l) - 1; i > 0 && l[i].ahead(l[parent(i)]); i = parent(i) {
		l[i], l[parent(i)] = l[parent(i)], l[i]
	}
	*h = l
}

// pop takes the first one away, and answers it.
func (h *heap) pop() head {
	l := *h
	first, last := l[0], len(l)-1
	l[0] = l[last]
	l = l[:last]
	for i, next := 0, l.first(0); next != i; i, next = next, l.first(next) {
		l[i], l[next] = l[next], l[i]
	}
	*h = l
	return first
}

// first answers which stands ahead: the one at i, or one of those whose parent it is.
func (h heap) first(i int) int {
	first := i
	for kid := 2*i + 1; kid <= 2*i+2 && kid < len(h); kid++ {
		if h[kid].ahead(h[first]) {
			first = kid
		}
	}
	return first
}

// parent answers the place above i.
func parent(i int) int { return (i - 1) / 2 }
