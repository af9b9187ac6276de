package disk

import "fascicle/api"

// call is one that changes, kept to be done again, to other files.
type call struct {
	do   func(f *files)
	tear func(f *files, n int) // does an Append with n bytes at most; nil of the others, which are never torn
}

// Append puts s behind the file's bytes, and makes the file if it is not there.
func (d *Disk) Append(name, s string) api.Errno {
	if e := d.ready(name); e != api.OK {
		return e
	}
	if s != "" && d.now.used+len(s) > d.room {
		return api.ErrFull
	}
	return d.change(call{
		do:   func(f *files) { f.extend(name, s) },
		tear: func(f *files, n int) { f.extend(name, s[:min(n, len(s))]) },
	})
}

// Truncate leaves the file its first n bytes.
func (d *Disk) Truncate(name string, n int) api.Errno {
	if e := d.ready(name); e != api.OK {
		return e
	}
	if n < 0 {
		return api.ErrArg
	}
	text, is := d.now.texts[name]
	if !is {
		return api.ErrNone
	}
	if n > len(text) {
		return api.ErrArg
	}
	return d.change(call{do: func(f *files) { f.cut(name, n) }})
}

// Rename puts a file in the place of another one, if that is there, under its name.
func (d *Disk) Rename(from, to string) api.Errno {
	if e := d.ready(from, to); e != api.OK {
		return e
	}
	if from == to {
		return api.ErrArg
	}
	if _, is := d.now.texts[from]; !is {
		return api.ErrNone
	}
	return d.change(call{do: func(f *files) { f.move(from, to) }})
}

// Remove takes the file away.
func (d *Disk) Remove(name string) api.Errno {
	if e := d.ready(name); e != api.OK {
		return e
	}
	if _, is := d.now.texts[name]; !is {
		return api.ErrNone
	}
	return d.change(call{do: func(f *files) { f.drop(name) }})
}

// Sync makes all sure.
func (d *Disk) Sync() api.Errno {
	if e := d.ready(); e != api.OK {
		return e
	}
	if e := d.burn(); e != api.OK {
		return e
	}
	d.settle(len(d.loose))
	return api.OK
}

// change does a call that has no error of its own, unless the fuse is at its end.
func (d *Disk) change(c call) api.Errno {
	if e := d.burn(); e != api.OK {
		return e
	}
	c.do(&d.now)
	d.loose = append(d.loose, c)
	return api.OK
}

// burn takes a call off the fuse; if none is left the disk stands still.
func (d *Disk) burn() api.Errno {
	switch d.fuse {
	case noFuse:
	case 0:
		d.still = true
		return api.ErrDown
	default:
		d.fuse--
	}
	return api.OK
}

// settle makes the first n loose calls sure, and forgets all of them.
// They are done again rather than that the files are cloned, so that a Sync costs what was done, not what is there.
func (d *Disk) settle(n int) {
	for _, c := range d.loose[:n] {
		c.do(&d.sure)
	}
	d.loose = nil
}
