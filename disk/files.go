package disk

import (
	"bytes"
	"maps"
	"slices"
)

// files has the bytes of each file by its name, and how many all of them are.
// Its calls check nothing: each is done to the files as they are now, and again to those that are sure, once it is.
type files struct {
	texts map[string][]byte
	used  int
}

func noFiles() files { return files{texts: map[string][]byte{}} }

// clone answers files of their own, with the same bytes.
func (f *files) clone() files {
	texts := maps.Clone(f.texts)
	// Without spare room at its end a text moves when it grows: the two never write into one array.
	for name, text := range texts {
		texts[name] = slices.Clip(text)
	}
	return files{texts: texts, used: f.used}
}

// extend puts s behind the file's bytes, and makes the file if it is not there.
func (f *files) extend(name, s string) {
	f.texts[name] = append(f.texts[name], s...)
	f.used += len(s)
}

// cut leaves the file its first n bytes. They are copied, so that the others are not kept.
func (f *files) cut(name string, n int) {
	f.used -= len(f.texts[name]) - n
	f.texts[name] = bytes.Clone(f.texts[name][:n])
}

// move makes the file to what from is, and from nothing.
func (f *files) move(from, to string) {
	f.used -= len(f.texts[to])
	f.texts[to] = f.texts[from]
	delete(f.texts, from)
}

// drop takes the file away.
func (f *files) drop(name string) {
	f.used -= len(f.texts[name])
	delete(f.texts, name)
}

// turn turns a bit of the file. It does so in a copy, as behind a clone both have one array.
func (f *files) turn(name string, off, bit int) {
	text := bytes.Clone(f.texts[name])
	text[off] ^= 1 << bit
	f.texts[name] = text
}
