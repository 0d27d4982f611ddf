package store

import (
	"bytes"
	"fmt"
	"maps"
	"slices"
	"strings"
	"testing"

	"codex/api"
	"codex/disk"
)

// diskOf is a disk of n blocks that holds these.
func diskOf(t *testing.T, n int, l map[int]api.Block) *disk.Disk {
	t.Helper()
	d, e := disk.New(n)
	if e != api.OK {
		t.Fatalf("New(%d): %d", n, e)
	}
	for i, b := range l {
		d.Write(i, b)
	}
	d.Sync()
	return d
}

// mounts holds Mount's answer against an error, and that it writes nothing.
func mounts(t *testing.T, name string, d *disk.Disk, want api.Errno) *Store {
	t.Helper()
	done, loose := d.Done(), d.Loose()
	s, e := Mount(d)
	if e != want || (s != nil) != (want == api.OK) {
		t.Errorf("%s: Mount: %v, %d; want %d", name, s, e, want)
	}
	if d.Done() != done || d.Loose() != loose {
		t.Errorf("%s: Mount wrote", name)
	}
	return s
}

// P8.1: without a disk, on one that is down, on one of no blocks.
func TestNoDisk(t *testing.T) {
	if s, e := Format(nil); s != nil || e != api.ErrArg {
		t.Error("Format:", s, e)
	}
	if s, e := Mount(nil); s != nil || e != api.ErrArg {
		t.Error("Mount:", s, e)
	}
	b := formatted(t, 16)
	b.put(1, "one")
	b.commit(0, 0)
	b.d.Fuse(0)
	mounts(t, "a fuse of 0 alone", b.d, api.OK)
	b.d.Sync()
	mounts(t, "down", b.d, api.ErrDown)
	done := b.d.Done()
	if s, e := Format(b.d); s != nil || e != api.ErrDown || b.d.Done() != done {
		t.Error("Format of one that is down:", s, e)
	}
	b.d.Crash(nil, -1)
	b.mount()
	none := new(disk.Disk)
	if s, e := Format(none); s != nil || e == api.OK {
		t.Error("Format of no blocks:", s, e)
	}
	if s, e := Mount(none); s != nil || e == api.OK {
		t.Error("Mount of no blocks:", s, e)
	}
}

// P8.1: Format of disks of every size, new ones and such as have been full: the superblock of Gen 2 in block 0, zeros in block 1, all other blocks as they were.
func TestFormat(t *testing.T) {
	for n := 16; n <= 128; n++ {
		mounts(t, fmt.Sprint("new, of ", n), diskOf(t, n, nil), api.ErrCorrupt)
		for _, fill := range []byte{0, 0x53} {
			old := map[int]api.Block{}
			for i := range n {
				old[i] = api.Block{fill, fill, byte(i) & fill, fill}
			}
			// A superblock of a greater Gen than Format's must not outlive it.
			if fill != 0 {
				old[1] = superBlock(api.Super{Gen: 77, Blocks: n, Used: bits(0, 1)})
			}
			d := diskOf(t, n, old)
			done := d.Done()
			s, e := Format(d)
			if e != api.OK || d.Done() != done+4 || d.Loose() != 0 {
				t.Fatalf("Format of %d blocks: %d, %d done, %d loose", n, e, d.Done()-done, d.Loose())
			}
			p := plainStore(n)
			copy(p.image[2:], slices.Repeat([]api.Block{{}}, n))
			for i := 2; i < n; i++ {
				p.image[i] = old[i]
			}
			p.same(t, "formatted", s)
			d.Crash(nil, -1)
			p.sameDisk(t, "formatted", d)
			p.same(t, "mounted", mounts(t, "formatted", d, api.OK))
		}
	}
}

// P8.1: Format tells the disk's errors, at each write and sync; block 1 is zeros, and lasts, ahead of all else.
func TestFormatCut(t *testing.T) {
	for fuse := range 6 {
		b := formatted(t, 20)
		b.put(1, "one")
		b.commit(0, 0) // Gen 3, in block 1
		done := b.d.Done()
		b.d.Fuse(fuse)
		s, e := Format(b.d)
		if fuse >= 4 {
			if s == nil || e != api.OK || b.d.Done() != done+4 {
				t.Error(fuse, s, e)
			}
			continue
		}
		if s != nil || e != api.ErrDown || b.d.Done() != done+fuse || b.d.Loose() != fuse%2 {
			t.Error(fuse, s, e, b.d.Done()-done, b.d.Loose())
		}
		b.d.Crash([]byte{1}, -1)
		one, _ := b.d.Read(1)
		if (one == api.Block{}) != (fuse >= 1) {
			t.Errorf("fuse %d: block 1 is %x", fuse, one)
		}
		zero, _ := b.d.Read(0)
		if fresh := zero == superBlock(api.Super{Gen: 2, Blocks: 20, Used: bits(0, 1)}); !fresh {
			t.Errorf("fuse %d: block 0 is %x", fuse, zero)
		}
	}
}

// filled is both on a disk of 20 blocks with objects of one, two and three blocks, the first of which is the log, in two leaves.
func filled(t *testing.T) *both {
	b := formatted(t, 20)
	b.setLog(b.put(6, "log"))
	b.put(1, "one")
	b.put(2, strings.Repeat("two", 60))
	b.put(3, strings.Repeat("three", 70))
	b.commit(0, 0)
	return b
}

// P8.1: each byte of each block turned: what is stored is corrupt, what is free or another superblock's is not asked.
func TestTurnedBytes(t *testing.T) {
	b := filled(t)
	stored := b.p.used[2:]
	if len(stored) != 1+1+2+3+2+1 {
		t.Fatal(stored)
	}
	for place := range 20 {
		was, _ := b.d.Read(place)
		want := api.OK
		if slices.Contains(stored, place) {
			want = api.ErrCorrupt
		}
		for at := range was {
			turned := was
			turned[at] ^= 1 << (at % 8)
			b.d.Write(place, turned)
			s := mounts(t, fmt.Sprintf("block %d, byte %d", place, at), b.d, want)
			// Without Gen 3 in block 1 it is Gen 2, of no entries, that is mounted.
			if objects := len(s.Entries()); want == api.OK && (objects == 0) != (place == 1) {
				t.Errorf("block %d, byte %d: %d objects", place, at, objects)
			}
			b.d.Sync()
		}
		b.d.Write(place, was)
	}
	zero, one := api.Block{}, api.Block{}
	b.d.Write(0, zero)
	mounts(t, "one superblock", b.d, api.OK)
	b.d.Write(1, one)
	mounts(t, "no superblock", b.d, api.ErrCorrupt)
}

// P8.1: Used is just what is somebody's: each block too many, each too few.
func TestUsed(t *testing.T) {
	b := filled(t)
	for place := range 128 {
		x := b.s.Super()
		x.Used[place/8] ^= 1 << (place % 8)
		b.d.Write(1, superBlock(x))
		want := api.ErrCorrupt
		if place < 2 || place >= 20 {
			// No superblock at all: it is Gen 2 that is mounted.
			want = api.OK
		}
		mounts(t, fmt.Sprint("block ", place), b.d, want)
	}
	// One too many, one too few: as many as there should be.
	x := b.s.Super()
	x.Used[0] ^= 1 << 2
	x.Used[2] ^= 1 << (19 % 8)
	b.d.Write(1, superBlock(x))
	mounts(t, "another one", b.d, api.ErrCorrupt)
}

// P8.1: a root at another place, or none, or one that no entry's block is.
func TestRoot(t *testing.T) {
	b := filled(t)
	for root := range 20 {
		x := b.s.Super()
		want := api.ErrCorrupt
		if root == x.Root {
			want = api.OK
		}
		if x.Root = root; root == 1 {
			continue // no superblock
		}
		b.d.Write(1, superBlock(x))
		mounts(t, fmt.Sprint("root ", root), b.d, want)
	}
	x := b.s.Super()
	x.Root, x.Used, x.Log = 0, bits(0, 1), api.Digest{}
	b.d.Write(1, superBlock(x))
	mounts(t, "no root, and nothing used", b.d, api.OK)
	x.Root, x.Used = 5, bits(0, 1)
	b.d.Write(1, superBlock(x))
	mounts(t, "a root that is not Used", b.d, api.ErrCorrupt)
	b.d.Write(5, api.Block{})
	mounts(t, "a root of zeros", b.d, api.ErrCorrupt)
}

// P8.1: Log is zeros, or an entry's Key.
func TestLog(t *testing.T) {
	b := filled(t)
	near := b.s.Super().Log
	near[31] ^= 1
	for _, log := range []api.Digest{near, {1}, {31: 1}, digest(4, "log")} {
		x := b.s.Super()
		x.Log = log
		b.d.Write(1, superBlock(x))
		mounts(t, "nobody's Log", b.d, api.ErrCorrupt)
	}
	for _, key := range append(b.p.keys(), api.Digest{}) {
		x := b.s.Super()
		x.Log = key
		b.d.Write(1, superBlock(x))
		if s := mounts(t, "an entry's Log", b.d, api.OK); s.Super() != x {
			t.Error(s.Super())
		}
	}
	d := diskOf(t, 16, map[int]api.Block{0: superBlock(api.Super{Gen: 2, Blocks: 16, Used: bits(0, 1), Log: api.Digest{1}})})
	mounts(t, "a Log of no entries", d, api.ErrCorrupt)
}

// leafText is a leaf's bytes.
func leafText(l ...api.Entry) []byte {
	text := []byte{0x4c, byte(len(l))}
	for _, x := range l {
		text = append(append(text, x.Key[:]...), byte(x.Place), byte(x.Blocks), byte(x.Refs/256), byte(x.Refs%256))
	}
	return text
}

// image is a disk of 20 blocks with Gen 4, the root in block 19, and these blocks.
func image(t *testing.T, l map[int]api.Block, leaves []int, used ...int) *disk.Disk {
	t.Helper()
	root := []byte{0x52, byte(len(leaves))}
	for _, place := range leaves {
		root = append(root, byte(place))
	}
	if _, there := l[19]; !there {
		l[19] = block(root)
	}
	l[0] = superBlock(api.Super{Gen: 4, Blocks: 20, Root: 19, Used: bits(append(used, 0, 1, 19)...)})
	return diskOf(t, 20, l)
}

// P8.1: leaves that are no index, and entries that are not what stands in their blocks.
func TestWrongIndexes(t *testing.T) {
	one, two := frame(1, "one")[0], frame(1, "two")[0]
	first, second := api.Entry{Key: digest(1, "one"), Place: 2, Blocks: 1, Refs: 1000}, api.Entry{Key: digest(1, "two"), Place: 3, Blocks: 1}
	if bytes.Compare(first.Key[:], second.Key[:]) > 0 {
		first, second, one, two = second, first, two, one
		first.Place, second.Place = 2, 3
	}
	at := func(x api.Entry, place, blocks int) api.Entry {
		x.Place, x.Blocks = place, blocks
		return x
	}
	for _, c := range []struct {
		name   string
		leaves []int
		l      map[int]api.Block
		used   []int
		want   api.Errno
	}{
		{"as it should be", []int{4}, map[int]api.Block{4: block(leafText(first, second))}, []int{2, 3, 4}, api.OK},
		{"a leaf elsewhere", []int{18}, map[int]api.Block{18: block(leafText(first, second))}, []int{2, 3, 18}, api.OK},
		{"one alone", []int{4}, map[int]api.Block{4: block(leafText(first))}, []int{2, 4}, api.OK},
		{"a leaf of none", []int{4}, map[int]api.Block{4: block(leafText())}, []int{4}, api.ErrCorrupt},
		{"a root of no leaves", nil, map[int]api.Block{}, nil, api.ErrCorrupt},
		{"a leaf as the root", nil, map[int]api.Block{19: block(leafText(first, second))}, []int{2, 3}, api.ErrCorrupt},
		{"a root as a leaf", []int{19}, map[int]api.Block{}, nil, api.ErrCorrupt},
		{"an object as a leaf", []int{2}, map[int]api.Block{}, []int{2}, api.ErrCorrupt},
		{"a leaf of zeros", []int{5}, map[int]api.Block{}, []int{5}, api.ErrCorrupt},
		{"a leaf beyond the disk", []int{20}, map[int]api.Block{}, nil, api.ErrCorrupt},
		{"a leaf in the last block that may be", []int{127}, map[int]api.Block{}, nil, api.ErrCorrupt},
		{"the other way round", []int{4}, map[int]api.Block{4: block(leafText(second, first))}, []int{2, 3, 4}, api.ErrCorrupt},
		{"one twice", []int{4}, map[int]api.Block{4: block(leafText(first, first))}, []int{2, 4}, api.ErrCorrupt},
		{"a leaf not full", []int{4, 5}, map[int]api.Block{4: block(leafText(first)), 5: block(leafText(second))}, []int{2, 3, 4, 5}, api.ErrCorrupt},
		{"another's block", []int{4}, map[int]api.Block{4: block(leafText(at(first, 3, 1), at(second, 2, 1)))}, []int{2, 3, 4}, api.ErrCorrupt},
		{"the same block", []int{4}, map[int]api.Block{4: block(leafText(first, at(second, 2, 1)))}, []int{2, 4}, api.ErrCorrupt},
		{"a block of zeros", []int{4}, map[int]api.Block{4: block(leafText(first, at(second, 6, 1)))}, []int{2, 4, 6}, api.ErrCorrupt},
		{"a block too many", []int{4}, map[int]api.Block{4: block(leafText(at(first, 5, 2))), 5: one}, []int{4, 5, 6}, api.ErrCorrupt},
		{"the leaf's own block", []int{4}, map[int]api.Block{4: block(leafText(first, at(second, 4, 1)))}, []int{2, 4}, api.ErrCorrupt},
		{"the root's block", []int{4}, map[int]api.Block{4: block(leafText(first, at(second, 19, 1)))}, []int{2, 4}, api.ErrCorrupt},
		{"beyond the disk", []int{4}, map[int]api.Block{4: block(leafText(first, at(second, 20, 1)))}, []int{2, 4}, api.ErrCorrupt},
		{"Refs too many", []int{4}, map[int]api.Block{4: block(leafText(api.Entry{Key: first.Key, Place: 2, Blocks: 1, Refs: 1001}))}, []int{2, 4}, api.ErrCorrupt},
		{"a leaf not Used", []int{4}, map[int]api.Block{4: block(leafText(first, second))}, []int{2, 3}, api.ErrCorrupt},
		{"an object not Used", []int{4}, map[int]api.Block{4: block(leafText(first, second))}, []int{2, 4}, api.ErrCorrupt},
	} {
		for place, b := range map[int]api.Block{2: one, 3: two} {
			if _, there := c.l[place]; !there {
				c.l[place] = b
			}
		}
		mounts(t, c.name, image(t, c.l, c.leaves, c.used...), c.want)
	}
}

// around is an object of three blocks, the middle one of which is m; its Key stands behind all of these.
func around(t *testing.T, m api.Block, behind ...api.Digest) (api.Digest, []api.Block) {
	t.Helper()
	for n := range 1000 {
		body := fmt.Sprintf("%0125d%s%d", 0, m[:], n)
		key := digest(1, body)
		ok := true
		for _, k := range behind {
			ok = ok && bytes.Compare(k[:], key[:]) < 0
		}
		if l := frame(1, body); ok && len(l) == 3 && l[1] == m {
			return key, l
		}
	}
	t.Fatal("no such object")
	return api.Digest{}, nil
}

// P8.1: objects, leaf and root each right by itself, but for a block in common: an object of three blocks whose middle one is another object, a leaf, the root.
func TestCommonBlocks(t *testing.T) {
	const leaf, lastLeaf, root = 10, 8, 18
	l := map[int]api.Block{root: block([]byte{0x52, 2, leaf, lastLeaf})}
	var entries []api.Entry
	var keys []api.Digest
	for n := 0; len(entries) < 3; n++ {
		body := fmt.Sprint("object ", n)
		key := digest(1, body)
		// Not too far on: the object of three blocks stands behind them.
		if key[0] < 0x80 && (len(keys) == 0 || bytes.Compare(keys[len(keys)-1][:], key[:]) < 0) {
			place := []int{2, 6, 4}[len(keys)]
			entries, keys = append(entries, api.Entry{Key: key, Place: place, Blocks: 1}), append(keys, key)
			l[place] = frame(1, body)[0]
		}
	}
	l[leaf] = block(leafText(entries...))
	for _, other := range []int{4, leaf, root} {
		key, big := around(t, l[other], keys...)
		for _, place := range []int{13, other - 1} {
			blocks, used := maps.Clone(l), []int{0, 1, 2, 4, 6, leaf, lastLeaf, root}
			blocks[lastLeaf] = block(leafText(api.Entry{Key: key, Place: place, Blocks: 3}))
			for i, b := range big {
				blocks[place+i] = b
				used = append(used, place+i)
			}
			blocks[0] = superBlock(api.Super{Gen: 4, Blocks: 20, Root: root, Used: bits(used...)})
			want := api.ErrCorrupt
			if place == 13 {
				want = api.OK
			}
			mounts(t, fmt.Sprintf("an object from block %d on with what stands in block %d", place, other), diskOf(t, 20, blocks), want)
		}
	}
}

// P8.1: a Mount asks the newest superblock alone, right or not.
func TestNewestAlone(t *testing.T) {
	b := filled(t)
	b.put(4, "more")
	b.commit(0, 0)
	was, _ := b.d.Read(b.s.Super().Root)
	b.d.Write(b.s.Super().Root, api.Block{})
	mounts(t, "Gen 4 is spoilt, Gen 3 isn't", b.d, api.ErrCorrupt)
	b.d.Write(b.s.Super().Root, was)
	b.d.Write(b.p.pending[digest(4, "more")].place, api.Block{})
	mounts(t, "an object of Gen 4 is spoilt", b.d, api.ErrCorrupt)
	b.d.Write(0, api.Block{})
	if s := mounts(t, "without Gen 4", b.d, api.OK); s.Super().Gen != 3 || len(s.Entries()) != 4 {
		t.Error(s.Super())
	}
}

// P8.1: a disk of any bytes is corrupt; a superblock of any numbers, too, or is a store.
func TestAnyBytes(t *testing.T) {
	next := uint32(1)
	random := func(n int) int {
		next = next*1664525 + 1013904223
		return int(next>>8) % n
	}
	for range 2000 {
		l := map[int]api.Block{}
		for i := range 20 {
			var b api.Block
			for at := range b {
				b[at] = byte(random(256))
			}
			switch random(4) {
			case 0:
				b = block(append([]byte{0x52, byte(random(3))}, byte(random(22)), byte(random(22))))
			case 1:
				b = block(leafText(api.Entry{Key: digest(1, "one"), Place: random(22), Blocks: 1 + random(3)}))
			case 2:
				b = frame(1, "one")[0]
			}
			l[i] = b
		}
		l[random(2)] = superBlock(api.Super{Gen: uint32(random(9)), Blocks: 20 + random(2), Root: random(22), Used: bits(0, 1, 2+random(20), 2+random(20))})
		d := diskOf(t, 20, l)
		done := d.Done()
		s, e := Mount(d)
		if (s != nil) != (e == api.OK) || e != api.OK && e != api.ErrCorrupt || d.Done() != done {
			t.Fatal(s, e)
		}
		if e == api.OK {
			if f := s.Commit(0, 0); f != api.OK {
				t.Fatal("Commit:", f)
			}
			mounts(t, "committed", d, api.OK)
		}
	}
}
