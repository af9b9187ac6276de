package man

import (
	"strings"

	"fascicle/api"
	"fascicle/word"
)

const numberSize = 8 // bytes of a number

// textOf answers the text that tells m.
func textOf(m api.Man) string {
	var text strings.Builder
	for _, v := range append([]uint64{m.Wal, m.Next, uint64(len(m.Runs))}, m.Runs...) {
		// Each number has room in its bytes: there is no error to tell.
		s, _ := word.Put(v, numberSize)
		text.WriteString(s)
	}
	return text.String()
}

// manOf answers the man that a text tells, and whether it tells one; its numbers are any.
func manOf(text string) (api.Man, bool) {
	var m api.Man
	read := numbers(text)
	m.Wal, _ = read()
	m.Next, _ = read()
	count, is := read()
	for range count {
		var v uint64
		if v, is = read(); !is {
			return api.Man{}, false
		}
		m.Runs = append(m.Runs, v)
	}
	// Its text is all of it: nothing stands behind the last number.
	if !is || textOf(m) != text {
		return api.Man{}, false
	}
	return m, true
}

// numbers answers what reads the numbers of a text, one a call, and tells whether it was there: where one is wanting, so are all behind it.
func numbers(text string) func() (uint64, bool) {
	return func() (uint64, bool) {
		if len(text) < numberSize {
			return 0, false
		}
		// They are of as many bytes as a number may have: there is no error to tell.
		v, _ := word.Get(text[:numberSize])
		text = text[numberSize:]
		return v, true
	}
}
