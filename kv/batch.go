package kv

import (
	"strings"

	"fascicle/api"
	"fascicle/mem"
	"fascicle/word"
)

// The bytes of numbers: how many pairs there are, whether one is gone, how many bytes a key has, and a value.
const (
	countSize = 2
	markSize  = 1
	keySize   = 2
	valueSize = 3
)

// check answers whether these pairs may be put at once.
func check(l []api.Pair) api.Errno {
	if len(l) > api.MaxBatch {
		return api.ErrArg
	}
	size := countSize
	for _, p := range l {
		if e := mem.Check(p); e != api.OK {
			return e
		}
		size += markSize + keySize + valueSize + len(p.Key) + len(p.Value)
	}
	if size > api.MaxFrame {
		return api.ErrLong
	}
	return api.OK
}

// bytesOf answers the batch of these pairs.
func bytesOf(l []api.Pair) string {
	var s strings.Builder
	// Each number has room in its bytes: there is no error to tell.
	put := func(v, n int) {
		b, _ := word.Put(uint64(v), n)
		s.WriteString(b)
	}
	put(len(l), countSize)
	for _, p := range l {
		if p.Gone {
			put(1, markSize)
		} else {
			put(0, markSize)
		}
		put(len(p.Key), keySize)
		put(len(p.Value), valueSize)
		s.WriteString(p.Key)
		s.WriteString(p.Value)
	}
	return s.String()
}

// batchOf answers the pairs of a batch, and whether s is one.
func batchOf(s string) ([]api.Pair, bool) {
	is := true
	take := func(n int) string {
		// Where some are wanting no more is read: all that is asked then is empty.
		if n > len(s) {
			is, s, n = false, "", 0
		}
		t := s[:n]
		s = s[n:]
		return t
	}
	number := func(n int) int {
		// Of no bytes it is 0.
		v, _ := word.Get(take(n))
		return int(v)
	}
	var l []api.Pair
	for range number(countSize) {
		mark, key, value := number(markSize), number(keySize), number(valueSize)
		p := api.Pair{Key: take(key), Value: take(value), Gone: mark == 1}
		if mark > 1 || mem.Check(p) != api.OK {
			return nil, false
		}
		l = append(l, p)
	}
	if !is || s != "" {
		return nil, false
	}
	return l, true
}
