package run

import (
	"cmp"

	"fascicle/api"
)

// spot is where a pair stands in a file.
type spot struct {
	key   string
	off   int    // of its frame
	frame string // as it was when the run was opened: by its sums alone it would not be told from another one that stands in its place
}

func (s spot) keyOf() string { return s.key }

// spotsOf answers where the pairs stand in a file that has the frames of these texts, and whether it is a run.
func spotsOf(file string, texts []string) ([]spot, bool) {
	if len(texts) == 0 || texts[0] != countOf(len(texts)-1) {
		return nil, false
	}
	spots := make([]spot, 0, len(texts)-1)
	off, last := api.HeadSize+len(texts[0]), ""
	for _, text := range texts[1:] {
		frame := file[off : off+api.HeadSize+len(text)]
		p, is := pairOf(frame[api.HeadSize:])
		// No key is empty: the first one is behind that.
		if !is || p.Key <= last {
			return nil, false
		}
		spots = append(spots, spot{key: p.Key, off: off, frame: frame})
		off += len(frame)
		last = p.Key
	}
	return spots, true
}

// place answers where in l, whose keys rise, the first one stands whose key is not ahead of that one: behind all, if there is none.
func place[E any, K cmp.Ordered](l []E, key K, keyOf func(E) K) int {
	low, high := 0, len(l)
	for low < high {
		middle := low + (high-low)/2
		if keyOf(l[middle]) < key {
			low = middle + 1
		} else {
			high = middle
		}
	}
	return low
}
