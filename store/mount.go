package store

import (
	"codex/api"
	"codex/bitmap"
	"codex/disk"
	"codex/index"
	"codex/leaf"
	"codex/object"
	"codex/sha"
	"codex/super"
)

const (
	firstGen = 2 // it stands in block 0
	supers   = 2 // blocks that are the superblocks' own, from 0 on
)

// Format makes a store of no objects on the disk.
func Format(d *disk.Disk) (*Store, api.Errno) {
	if d == nil {
		return nil, api.ErrArg
	}
	// First of all: what stood in block 1 may be of a greater Gen.
	if e := d.Write(1, api.Block{}); e != api.OK {
		return nil, e
	}
	if e := d.Sync(); e != api.OK {
		return nil, e
	}
	used, e := usedBy(nil, nil)
	if e != api.OK {
		return nil, e
	}
	first := api.Super{Gen: firstGen, Blocks: d.Len(), Used: used}
	if e := super.Write(d, first); e != api.OK {
		return nil, e
	}
	return made(d, first, nil), api.OK
}

// Mount tells the store that stands on the disk, if all of it is right.
func Mount(d *disk.Disk) (*Store, api.Errno) {
	last, e := super.Newest(d)
	if e != api.OK {
		return nil, e
	}
	entries, places, ok := readIndex(d, last.Root)
	if !ok {
		return nil, api.ErrCorrupt
	}
	// That no block is Used from the disk's end on is the superblock's promise, so places beyond it show here, too.
	if used, e := usedBy(entries, places); e != api.OK || used != last.Used {
		return nil, api.ErrCorrupt
	}
	for _, entry := range entries {
		if !isStored(d, entry) {
			return nil, api.ErrCorrupt
		}
	}
	if _, ok := index.Find(entries, last.Log); !ok && last.Log != (api.Digest{}) {
		return nil, api.ErrCorrupt
	}
	return made(d, last, entries), api.OK
}

// made is a store of entries that last.
func made(d *disk.Disk, last api.Super, entries []api.Entry) *Store {
	lasts := make(map[api.Digest]record, len(entries))
	for _, entry := range entries {
		lasts[entry.Key] = record{entry: entry}
	}
	return &Store{disk: d, super: last, objects: hold(lasts, byDigest), log: last.Log}
}

// readIndex tells the entries of the index whose root stands there (0: no entries), and the places of its leaves and its root.
func readIndex(d *disk.Disk, root int) ([]api.Entry, []int, bool) {
	if root == 0 {
		return nil, nil, true
	}
	b, e := d.Read(root)
	if e != api.OK {
		return nil, nil, false
	}
	places, e := leaf.Leaves(b)
	if e != api.OK {
		return nil, nil, false
	}
	leaves := make([]api.Block, 0, len(places))
	for _, place := range places {
		b, e := d.Read(place)
		if e != api.OK {
			return nil, nil, false
		}
		leaves = append(leaves, b)
	}
	entries, e := index.Unpack(leaves)
	return entries, append(places, root), e == api.OK
}

// usedBy tells the blocks of the superblocks, of all entries and of the index at these places; ErrForm, if two of them have one in common.
func usedBy(entries []api.Entry, places []int) (api.Bitmap, api.Errno) {
	used, e := bitmap.With(api.Bitmap{}, 0, supers)
	for _, entry := range entries {
		if e != api.OK {
			return api.Bitmap{}, e
		}
		used, e = bitmap.With(used, entry.Place, entry.Blocks)
	}
	for _, place := range places {
		if e != api.OK {
			return api.Bitmap{}, e
		}
		used, e = bitmap.With(used, place, 1)
	}
	return used, e
}

// isStored tells whether the entry's blocks are the object of its Key.
func isStored(d *disk.Disk, entry api.Entry) bool {
	frame, e := read(d, entry)
	if e != api.OK {
		return false
	}
	kind, body, e := object.Body(frame)
	return e == api.OK && sha.Of(kind, body) == entry.Key
}
