package simfs

import (
	"bytes"
	"maps"

	"chronicle/api"
)

// Fuse lets the power go off behind n changing operations more; below 0: never.
func (d *Disk) Fuse(n int) {
	if d == nil || d.dead {
		return
	}
	d.fused, d.left = n >= 0, n
}

// spend counts a changing operation that nothing else stands against, and tells whether it is done; at the end of the fuse the power goes instead.
func (d *Disk) spend() bool {
	if d.fused && d.left == 0 {
		d.dead = true
		return false
	}
	if d.fused {
		d.left--
	}
	d.ops++
	return true
}

// Dead tells whether the power is off.
func (d *Disk) Dead() bool { return d != nil && d.dead }

// Crash tells what a loss of power leaves, by picks.
func (d *Disk) Crash(picks []int) []api.File {
	if d == nil {
		return nil
	}
	c := &choice{picks}
	dir := d.dir.past(c.upTo(len(d.dir.changes)), maps.Clone[directory])
	return imageOf(dir, func(f *file) []byte { return f.leaves(c) })
}

// leaves is what a loss of power leaves of a file's bytes.
func (f *file) leaves(c *choice) []byte {
	n := c.upTo(len(f.changes))
	b := f.past(n, bytes.Clone)
	if n < len(f.changes) {
		b = append(b, f.changes[n].torn(c)...)
	}
	return b
}

// choice is how much a loss of power leaves, told by picks that are taken one by one.
type choice struct{ picks []int }

// upTo is a number from 0 to n, by the next pick; behind the last one it is 0.
func (c *choice) upTo(n int) int {
	if len(c.picks) == 0 {
		return 0
	}
	x := c.picks[0] % (n + 1)
	c.picks = c.picks[1:]
	if x < 0 {
		x += n + 1
	}
	return x
}
