package disk

import "fascicle/api"

// Fuse lets n more calls be done, and then the disk stand still; below 0 it takes the fuse away, and the disk goes on.
func (d *Disk) Fuse(n int) api.Errno {
	if d == nil {
		return api.ErrNil
	}
	if n < 0 {
		d.mend()
		return api.OK
	}
	d.fuse = n
	return api.OK
}

// Crash leaves what was sure, the first keep of the loose calls, and of the next one, if it is an Append, torn bytes.
func (d *Disk) Crash(keep, torn int) api.Errno {
	if d == nil {
		return api.ErrNil
	}
	keep = min(max(keep, 0), len(d.loose))
	lost := d.loose[keep:]
	d.settle(keep)
	if torn > 0 && len(lost) > 0 && lost[0].tear != nil {
		lost[0].tear(&d.sure, torn)
	}
	d.now = d.sure.clone()
	d.mend()
	return api.OK
}

// Flip turns a bit of a byte of the file, for good.
func (d *Disk) Flip(name string, off, bit int) api.Errno {
	if e := d.ready(name); e != api.OK {
		return e
	}
	if bit < 0 || bit > 7 || off < 0 {
		return api.ErrArg
	}
	text, is := d.now.texts[name]
	if !is {
		return api.ErrNone
	}
	if off >= len(text) {
		return api.ErrArg
	}
	if len(d.loose) > 0 {
		return api.ErrLoose
	}
	d.now.turn(name, off, bit)
	d.sure.turn(name, off, bit)
	return api.OK
}

// mend takes the fuse away: the disk does not stand still.
func (d *Disk) mend() {
	d.fuse, d.still = noFuse, false
}
