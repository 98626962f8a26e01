package disk

import (
	"maps"
	"slices"
)

// Kinds of changes
const (
	appended = iota
	cut
	renamed
	deleted
)

// change is a call that did something.
type change struct {
	kind, n  int
	name, to string
	bytes    []byte
}

// apply does a change once more.
func (c change) apply(files map[string][]byte) {
	b := files[c.name]
	switch c.kind {
	case appended:
		files[c.name] = slices.Concat(b, c.bytes)
	case cut:
		files[c.name] = b[:c.n]
	case renamed:
		delete(files, c.name)
		files[c.to] = b
	case deleted:
		delete(files, c.name)
	}
}

// do does a change, which is pending then.
func (d *Disk) do(c change) {
	d.used -= len(d.files[c.name]) + len(d.files[c.to])
	c.apply(d.files)
	d.used += len(d.files[c.name]) + len(d.files[c.to])
	d.pending = append(d.pending, c)
}

// settle makes what is pending durable.
func (d *Disk) settle() {
	for _, c := range d.pending {
		d.keep(c.name)
		if c.kind == renamed {
			d.keep(c.to)
		}
	}
	d.pending = nil
}

// keep makes a file durable as it is now, or is no more.
func (d *Disk) keep(name string) {
	b, ok := d.files[name]
	if ok {
		d.synced[name] = b
	} else {
		delete(d.synced, name)
	}
}

// Crash lets the machine fall: of what is pending the first keep changes stay, and of the next one, if it is an Append,
// the first torn bytes.
func (d *Disk) Crash(keep, torn int) {
	if d.down {
		return
	}
	keep = min(max(keep, 0), len(d.pending))
	for _, c := range d.pending[:keep] {
		c.apply(d.synced)
	}
	if keep < len(d.pending) {
		c := d.pending[keep]
		if c.kind == appended && torn >= 0 && torn < len(c.bytes) {
			c.bytes = c.bytes[:torn]
			c.apply(d.synced)
		}
	}
	d.files = maps.Clone(d.synced)
	d.pending = nil
	d.used = 0
	for _, b := range d.files {
		d.used += len(b)
	}
	d.down = true
}
