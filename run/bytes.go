package run

import (
	"fascicle/api"
	"fascicle/frame"
	"fascicle/mem"
	"fascicle/word"
)

// The bytes of numbers: how many pairs there are, whether one is gone, how many bytes a key has.
const (
	countSize = 8
	markSize  = 1
	keySize   = 2
)

// check answers whether a run may have these pairs, in this order.
func check(l []api.Pair) api.Errno {
	for _, p := range l {
		if e := mem.Check(p); e != api.OK {
			return e
		}
	}
	for i := range l {
		if i > 0 && l[i].Key <= l[i-1].Key {
			return api.ErrKeys
		}
	}
	return api.OK
}

// bytesOf answers the bytes of the run of these pairs.
func bytesOf(l []api.Pair) string {
	texts := make([]string, 0, 1+len(l))
	texts = append(texts, countOf(len(l)))
	for _, p := range l {
		texts = append(texts, textOf(p))
	}
	// No pair that may be is longer than a frame's text: there is no error to tell.
	s, _ := frame.All(texts...)
	return s
}

// countOf answers the text that tells how many pairs there are.
func countOf(n int) string { return number(uint64(n), countSize) }

// textOf answers the text that tells a pair.
func textOf(p api.Pair) string {
	var mark uint64
	if p.Gone {
		mark = 1
	}
	return number(mark, markSize) + number(uint64(len(p.Key)), keySize) + p.Key + p.Value
}

// pairOf answers the pair that a text tells, and whether it tells one that may be.
func pairOf(text string) (api.Pair, bool) {
	if len(text) < markSize+keySize {
		return api.Pair{}, false
	}
	// They are of as many bytes as a number may have: there is no error to tell.
	mark, _ := word.Get(text[:markSize])
	n, _ := word.Get(text[markSize : markSize+keySize])
	both := text[markSize+keySize:]
	if mark > 1 || n > uint64(len(both)) {
		return api.Pair{}, false
	}
	p := api.Pair{Key: both[:n], Value: both[n:], Gone: mark == 1}
	if mem.Check(p) != api.OK {
		return api.Pair{}, false
	}
	return p, true
}

// number answers the n bytes of v, which has room in them: there is no error to tell.
func number(v uint64, n int) string {
	s, _ := word.Put(v, n)
	return s
}
