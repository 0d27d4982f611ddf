// Package disk is layer 1: see shared/doc/01-disk.md.
package disk

import (
	"iter"
	"slices"

	"codex/api"
)

// tornLen is how many bytes of a torn block come through.
const tornLen = 64

const noFuse = -1

// write is a loose one: what is to stand in which block.
type write struct {
	place int
	block api.Block
}

// Disk is a disk of blocks.
type Disk struct {
	blocks []api.Block // what a crash can't take
	loose  []write     // in the order in which they came
	fuse   int         // below 0: there is none
	down   bool
	done   int
}

// New makes a disk of n blocks of zeros, without a fuse.
func New(n int) (*Disk, api.Errno) {
	if n < api.MinBlocks || n > api.MaxBlocks {
		return nil, api.ErrArg
	}
	return &Disk{blocks: make([]api.Block, n), fuse: noFuse}, api.OK
}

// Len is how many blocks there are.
func (d *Disk) Len() int {
	if d == nil {
		return 0
	}
	return len(d.blocks)
}

// Read tells what was last written to block i, be it loose or not.
func (d *Disk) Read(i int) (api.Block, api.Errno) {
	if i < 0 || i >= d.Len() {
		return api.Block{}, api.ErrArg
	}
	if d.down {
		return api.Block{}, api.ErrDown
	}
	for _, w := range slices.Backward(d.loose) {
		if w.place == i {
			return w.block, api.OK
		}
	}
	return d.blocks[i], api.OK
}

// Write adds a loose write of block i.
func (d *Disk) Write(i int, b api.Block) api.Errno {
	if i < 0 || i >= d.Len() {
		return api.ErrArg
	}
	if e := d.burn(); e != api.OK {
		return e
	}
	d.loose = append(d.loose, write{place: i, block: b})
	return api.OK
}

// Sync makes all loose writes last.
func (d *Disk) Sync() api.Errno {
	if d == nil {
		return api.ErrArg
	}
	if e := d.burn(); e != api.OK {
		return e
	}
	for _, w := range d.writes() {
		d.blocks[w.place] = w.block
	}
	d.loose = nil
	return api.OK
}

// Loose is how many writes are loose.
func (d *Disk) Loose() int {
	if d == nil {
		return 0
	}
	return len(d.loose)
}

// Fuse lets n more writes and syncs through; below 0: all of them. A disk that is down stays down.
func (d *Disk) Fuse(n int) {
	if d == nil {
		return
	}
	d.fuse = max(n, noFuse)
}

// Down is whether the fuse has burnt through; only Crash brings the disk back.
func (d *Disk) Down() bool { return d != nil && d.down }

// Done is how many writes and syncs went through since the disk was made, over all crashes.
func (d *Disk) Done() int {
	if d == nil {
		return 0
	}
	return d.done
}

// Crash does those of the loose writes whose byte of keep is odd, the one at the place torn by its first half alone, and forgets the others.
func (d *Disk) Crash(keep []byte, torn int) {
	if d == nil {
		return
	}
	for k, w := range d.kept(keep) {
		n := len(w.block)
		if k == torn {
			n = tornLen
		}
		copy(d.blocks[w.place][:n], w.block[:n])
	}
	d.loose = nil
	d.fuse = noFuse
	d.down = false
}

// burn counts one write or sync, unless the disk is down or goes down at it.
func (d *Disk) burn() api.Errno {
	if d.fuse == 0 {
		d.down = true
	}
	if d.down {
		return api.ErrDown
	}
	if d.fuse > 0 {
		d.fuse--
	}
	d.done++
	return api.OK
}

// writes goes through the loose ones in order, each with its place in the row.
func (d *Disk) writes() iter.Seq2[int, write] {
	return func(yield func(int, write) bool) {
		for k, w := range d.loose {
			if !yield(k, w) {
				return
			}
		}
	}
}

// kept goes through those that keep saves; their places stay those of the whole row, as torn counts by it.
func (d *Disk) kept(keep []byte) iter.Seq2[int, write] {
	return func(yield func(int, write) bool) {
		for k, w := range d.writes() {
			if k >= len(keep) {
				return
			}
			if keep[k]%2 == 1 && !yield(k, w) {
				return
			}
		}
	}
}
