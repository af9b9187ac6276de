package kv

import (
	"fascicle/api"
	"fascicle/man"
	"fascicle/run"
)

// turn is a change of what a store is made of: pairs become a run. Up to the man's taking its place all is as it was, for who reads and behind a crash; from then on it is what it will be.
type turn struct {
	store *Kv
	n     uint64 // of the new run
	pairs []api.Pair
	man   api.Man    // what the store is made of then
	stay  []*run.Run // those that are ahead of the new one
	drop  []uint64   // the runs that are removed
	run   *run.Run   // the new one
}

// clear takes away the file that a change left which found no room for its man.
func (x *turn) clear() api.Errno {
	e := x.store.disk.Remove(x.store.runName(x.n))
	if e == api.ErrNone {
		return api.OK
	}
	return e
}

// write makes the new run's file.
func (x *turn) write() api.Errno {
	return run.Write(x.store.disk, x.store.runName(x.n), x.pairs)
}

// open opens the new run.
func (x *turn) open() (e api.Errno) {
	x.run, e = run.Open(x.store.disk, x.store.runName(x.n))
	return e
}

// save puts the new man in the place of the old one.
func (x *turn) save() api.Errno {
	k := x.store
	e := man.Save(k.disk, k.name+manEnd, x.man)
	if e == api.OK {
		k.man, k.runs = x.man, append(x.stay, x.run)
	}
	return e
}

// remove takes the runs away that are none of the store's any more.
func (x *turn) remove() api.Errno {
	for _, n := range x.drop {
		if e := x.store.disk.Remove(x.store.runName(n)); e != api.OK {
			return e
		}
	}
	return api.OK
}

// renew empties the mem, all of which is in a run now, and begins the new wal.
func (k *Kv) renew() api.Errno {
	k.mem.Clear()
	return k.openWal()
}
