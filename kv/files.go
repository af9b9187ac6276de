package kv

import (
	"slices"
	"strings"

	"fascicle/api"
	"fascicle/disk"
	"fascicle/word"
)

// What stands behind a store's name in its files' names; behind the last two of these stands a number.
const (
	manEnd = ".man"
	newEnd = ".man.new"
	walEnd = ".wal."
	runEnd = ".run."

	digits = 12 // of such a number
)

// mayBe answers whether a store may have that name.
func mayBe(name string) bool {
	// What a file's name may be is told by a disk; by one of its own, as one that stands still does not tell it.
	d, _ := disk.New(0)
	_, e := d.Size(name)
	return e == api.ErrNone && len(name) <= api.MaxStore
}

// walName answers the name of the wal's file.
func (k *Kv) walName() string { return k.numbered(walEnd, k.man.Wal) }

// runName answers the name of the file of the run n.
func (k *Kv) runName(n uint64) string { return k.numbered(runEnd, n) }

// numbered answers the name of a file with a number, which a man may have: it has no more digits than these.
func (k *Kv) numbered(end string, n uint64) string {
	s, _ := word.Hex(n, digits)
	return k.name + end + s
}

// tidy takes away, for good, what was left where a change was cut off.
func (k *Kv) tidy() api.Errno {
	strays := slices.DeleteFunc(k.disk.Names(), k.leaves)
	for _, name := range strays {
		if e := k.disk.Remove(name); e != api.OK {
			return e
		}
	}
	if len(strays) == 0 {
		return api.OK
	}
	return k.disk.Sync()
}

// leaves answers whether a file stays: it is the store's, or of another kind than the store's are.
func (k *Kv) leaves(name string) bool {
	if name == k.name+newEnd {
		return false
	}
	if n, is := numberOf(name, k.name+walEnd); is {
		return n == k.man.Wal
	}
	if n, is := numberOf(name, k.name+runEnd); is {
		return slices.Contains(k.man.Runs, n)
	}
	return true
}

// numberOf answers the number in a file's name that begins so, and whether just that stands behind it.
func numberOf(name, begin string) (uint64, bool) {
	rest, is := strings.CutPrefix(name, begin)
	if !is || len(rest) != digits {
		return 0, false
	}
	n, e := word.Unhex(rest)
	return n, e == api.OK
}
