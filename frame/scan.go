package frame

import (
	"iter"
	"strings"

	"fascicle/api"
	"fascicle/word"
)

// Scan answers the texts of all frames that b begins with, how many bytes these frames have, and whether what is left, if something is, is torn or bad.
func Scan(b string) (l []string, good int, e api.Errno) {
	for text, why := range texts(b) {
		if why != api.OK {
			return l, good, why
		}
		// A copy: a text may be kept longer than the bytes that it was read of.
		l = append(l, strings.Clone(text))
		good += api.HeadSize + len(text)
	}
	return l, good, api.OK
}

// texts goes through b: each text, and at last, where no frame follows though bytes do, none and why.
func texts(b string) iter.Seq2[string, api.Errno] {
	return func(yield func(text string, e api.Errno) bool) {
		for left := b; left != ""; {
			text, e := first(left)
			if !yield(text, e) || e != api.OK {
				return
			}
			left = left[api.HeadSize+len(text):]
		}
	}
}

// first answers the text of the frame that b begins with.
func first(b string) (string, api.Errno) {
	if len(b) < 2*part {
		return "", api.ErrTorn
	}
	count := b[:part]
	// It is of 4 bytes: there is no error to tell.
	n, _ := word.Get(count)
	// A count that can't be trusted must not tell that bytes are wanting: what is spoilt would be taken for torn.
	if sum(count) != b[part:2*part] || n > api.MaxFrame {
		return "", api.ErrBad
	}
	end := api.HeadSize + int(n)
	if len(b) < end {
		return "", api.ErrTorn
	}
	text := b[api.HeadSize:end]
	if sum(text) != b[2*part:api.HeadSize] {
		return "", api.ErrBad
	}
	return text, api.OK
}
