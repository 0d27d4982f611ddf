package store

import (
	"iter"

	"codex/api"
	"codex/bitmap"
	"codex/index"
	"codex/super"
)

// plan is how what is pending is to last.
type plan struct {
	records []record    // by rising Keys, each with its place
	places  []int       // of the index's blocks, the root's last
	index   []api.Block // in the order of places
	super   api.Super
}

// room is what is free while a Commit takes blocks.
type room struct {
	used   api.Bitmap
	blocks int
}

// Commit makes last what is pending, all at once or not at all; then reserve blocks are free at least, and run of them stand in a row.
func (s *Store) Commit(reserve, run int) api.Errno {
	if e := s.state(); e != api.OK {
		return e
	}
	next := s.super
	next.Gen++
	if !super.Good(next) {
		s.Abort()
		return api.ErrLimit
	}
	p, e := s.plan(next)
	if e != api.OK || !p.spares(reserve, run) {
		s.Abort()
		return api.ErrFull
	}
	if e := s.write(p); e != api.OK {
		s.dead = true
		return e
	}
	*s = *made(s.disk, p.super, p.entries())
	return api.OK
}

// plan finds blocks for what is new and for the index, none of them one that lasts, so that a crash can't take what is there; next is the superblock that lasts, of the next Gen.
func (s *Store) plan(next api.Super) (plan, api.Errno) {
	free := room{used: next.Used, blocks: next.Blocks}
	var p plan
	var e api.Errno
	for _, r := range s.objects.all() {
		if r.isNew() {
			if r.entry.Place, e = free.take(len(r.frame)); e != api.OK {
				return plan{}, e
			}
		}
		p.records = append(p.records, r)
	}
	next.Root = 0
	for range index.Size(len(p.records)) {
		if next.Root, e = free.take(1); e != api.OK {
			return plan{}, e
		}
		p.places = append(p.places, next.Root)
	}
	entries := p.entries()
	if p.index, e = index.Pack(entries, p.places); e != api.OK {
		return plan{}, e
	}
	if next.Used, e = usedBy(entries, p.places); e != api.OK {
		return plan{}, e
	}
	next.Log = s.log
	p.super = next
	return p, api.OK
}

// write makes all but the superblock last first: it must name nothing that a crash may take.
func (s *Store) write(p plan) api.Errno {
	for place, b := range p.blocks() {
		if e := s.disk.Write(place, b); e != api.OK {
			return e
		}
	}
	if e := s.disk.Sync(); e != api.OK {
		return e
	}
	return super.Write(s.disk, p.super)
}

// entries is those of all records.
func (p plan) entries() []api.Entry {
	l := make([]api.Entry, 0, len(p.records))
	for _, r := range p.records {
		l = append(l, r.entry)
	}
	return l
}

// spares tells whether so many blocks are free then, and whether there is such a run of them.
func (p plan) spares(reserve, run int) bool {
	used, blocks := p.super.Used, p.super.Blocks
	if blocks-bitmap.Count(used, blocks) < reserve {
		return false
	}
	if run < 1 {
		return true
	}
	_, e := bitmap.Run(used, blocks, run)
	return e == api.OK
}

// blocks tells what is to be written, each block with its place: the new objects', then the index's.
func (p plan) blocks() iter.Seq2[int, api.Block] {
	return func(yield func(int, api.Block) bool) {
		for _, r := range p.records {
			for i, b := range r.frame {
				if !yield(r.entry.Place+i, b) {
					return
				}
			}
		}
		for i, b := range p.index {
			if !yield(p.places[i], b) {
				return
			}
		}
	}
}

// take finds the least run of n free blocks, and takes it.
func (f *room) take(n int) (int, api.Errno) {
	from, e := bitmap.Run(f.used, f.blocks, n)
	if e != api.OK {
		return 0, e
	}
	used, e := bitmap.With(f.used, from, n)
	if e != api.OK {
		return 0, e
	}
	f.used = used
	return from, api.OK
}
