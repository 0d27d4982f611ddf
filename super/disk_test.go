package super

import (
	"fmt"
	"testing"

	"codex/api"
	"codex/disk"
)

// made is a disk that holds these blocks from block 0 on.
func made(t *testing.T, n int, l ...api.Block) *disk.Disk {
	t.Helper()
	d, e := disk.New(n)
	if e != api.OK {
		t.Fatalf("New(%d): %d", n, e)
	}
	for i, b := range l {
		d.Write(i, b)
	}
	d.Sync()
	return d
}

// of is the block of the superblock of that Gen.
func of(gen uint32, blocks int) api.Block { return block(text(plain(gen, blocks))) }

// newest checks that Newest is the superblock of that Gen; 0: that there is none. It writes nothing.
func newest(t *testing.T, name string, d *disk.Disk, gen uint32) {
	t.Helper()
	done, loose := d.Done(), d.Loose()
	s, e := Newest(d)
	if gen == 0 && (e != api.ErrCorrupt || s != api.Super{}) {
		t.Errorf("%s: Newest: %v, %d; want none", name, s, e)
	}
	if gen > 0 && (e != api.OK || s != plain(gen, d.Len())) {
		t.Errorf("%s: Newest: %v, %d; want Gen %d", name, s, e, gen)
	}
	if d.Done() != done || d.Loose() != loose {
		t.Errorf("%s: Newest wrote", name)
	}
}

func wrote(t *testing.T, d *disk.Disk, s api.Super) {
	t.Helper()
	if e := Write(d, s); e != api.OK {
		t.Fatalf("Write(%v): %d", s, e)
	}
}

// P7.2: a new disk has no superblock.
func TestNewDisk(t *testing.T) {
	for n := 16; n <= 128; n++ {
		newest(t, fmt.Sprint("new, of ", n), made(t, n), 0)
	}
}

// P7.2: without a disk.
func TestNoDisk(t *testing.T) {
	for _, s := range append(some(), api.Super{}, plain(1<<30, 20)) {
		if e := Write(nil, s); e != api.ErrArg {
			t.Errorf("Write(nil, %v): %d", s, e)
		}
	}
	if s, e := Newest(nil); e != api.ErrArg || s != (api.Super{}) {
		t.Error(s, e)
	}
}

// A disk that disk.New did not make has no blocks: an error, whichever, and no panic.
func TestDiskOfNoBlocks(t *testing.T) {
	d := new(disk.Disk)
	for range 2 {
		if s, e := Newest(d); e == api.OK || s != (api.Super{}) {
			t.Error(s, e)
		}
		for _, s := range []api.Super{{}, {Gen: 2, Used: bitmap0(0, 1)}, plain(2, 16)} {
			if e := Write(d, s); e != api.ErrArg {
				t.Errorf("Write(%v): %d", s, e)
			}
		}
		d.Sync()
	}
}

// P7.2: a disk that is down, whatever stands on it, until it is back.
func TestDiskThatIsDown(t *testing.T) {
	for _, n := range []int{16, 20, 128} {
		for _, d := range []*disk.Disk{made(t, n), made(t, n, of(4, n)), made(t, n, of(4, n), of(3, n))} {
			was, wasE := Newest(d)
			d.Fuse(0)
			if s, e := Newest(d); s != was || e != wasE {
				t.Error("a fuse of 0 alone:", s, e)
			}
			d.Sync()
			if s, e := Newest(d); e != api.ErrDown || s != (api.Super{}) {
				t.Error("Newest:", s, e)
			}
			done := d.Done()
			if e := Write(d, plain(5, n)); e != api.ErrDown || d.Done() != done {
				t.Error("Write:", e)
			}
			for _, s := range []api.Super{{}, plain(0, n), plain(5, n+1), plain(1<<30, n)} {
				if e := Write(d, s); e != api.ErrArg {
					t.Error("Write of what may not be:", e)
				}
			}
			d.Crash(nil, -1)
			if s, e := Newest(d); s != was || e != wasE {
				t.Error("back:", s, e)
			}
		}
	}
}

// P7.2: what may not be written: nothing is done.
func TestWriteOfWrongSupers(t *testing.T) {
	d := made(t, 20, of(4, 20), of(3, 20))
	done := d.Done()
	d.Fuse(1)
	noRoot, free, beyond := plain(5, 20), plain(5, 20), plain(5, 20)
	noRoot.Root, free.Used, beyond.Used[2] = 1, bitmap0(0, 2), 1<<4
	for _, s := range []api.Super{{}, plain(0, 20), plain(1<<30, 20), plain(1<<31, 20), noRoot, free, beyond, plain(5, 15), plain(5, 129),
		plain(5, 16), plain(5, 19), plain(5, 21), plain(5, 128)} {
		if e := Write(d, s); e != api.ErrArg {
			t.Errorf("Write(%v): %d", s, e)
		}
	}
	if d.Done() != done || d.Loose() != 0 || d.Down() {
		t.Error("something was done")
	}
	newest(t, "as it was", d, 4)
}

// P7.2: each number of Blocks on a disk of each.
func TestBlocksAreTheDisks(t *testing.T) {
	for n := 16; n <= 128; n++ {
		for blocks := 16; blocks <= 128; blocks++ {
			d, want := made(t, n), api.ErrArg
			if n == blocks {
				want = api.OK
			}
			if e := Write(d, plain(6, blocks)); e != want {
				t.Errorf("Write of %d blocks on %d: %d", blocks, n, e)
			}
			d = made(t, n, of(6, blocks))
			gen := uint32(0)
			if n == blocks {
				gen = 6
			}
			newest(t, fmt.Sprint("of ", blocks, " on ", n), d, gen)
		}
	}
}

// P7.2: Write writes the block of its Gen alone, and syncs: two things done, none loose.
func TestWriteOfEveryKindOfGen(t *testing.T) {
	for _, n := range []int{16, 17, 128} {
		for _, gen := range []uint32{1, 2, 3, 254, 255, 256, 65536, 65537, 1 << 24, 1<<29 + 1, 1<<30 - 2, 1<<30 - 1} {
			d := made(t, n)
			for i := range n {
				d.Write(i, api.Block{byte(i), 200})
			}
			done := d.Done()
			wrote(t, d, plain(gen, n))
			if d.Done() != done+2 || d.Loose() != 0 {
				t.Errorf("Gen %d: done %d, loose %d", gen, d.Done()-done, d.Loose())
			}
			d.Crash(nil, -1)
			for i := range n {
				want := api.Block{byte(i), 200}
				if i == int(gen%2) {
					want = of(gen, n)
				}
				if b, _ := d.Read(i); b != want {
					t.Errorf("Gen %d: block %d is %x", gen, i, b)
				}
			}
			newest(t, fmt.Sprint("Gen ", gen), d, gen)
		}
	}
}

// P7.2: an error of the disk, at the write and at the sync: told, and nothing is done behind it.
func TestWriteTellsTheDisksError(t *testing.T) {
	for fuse := range 4 {
		d := made(t, 20, of(4, 20), of(3, 20))
		done := d.Done()
		d.Fuse(fuse)
		want, loose := api.OK, 0
		if fuse < 2 {
			want, loose = api.ErrDown, fuse
		}
		if e := Write(d, plain(5, 20)); e != want || d.Down() != (fuse < 2) || d.Done() != done+min(fuse, 2) || d.Loose() != loose {
			t.Errorf("fuse %d: %d, down %v, done %d, loose %d", fuse, e, d.Down(), d.Done()-done, d.Loose())
		}
	}
}

// P7.2: two Gens, each in its block, near and far from each other: the greater one.
func TestGreaterGen(t *testing.T) {
	evens, odds := []uint32{2, 4, 254, 256, 258, 65536, 1 << 24, 1<<30 - 2}, []uint32{1, 3, 5, 255, 257, 65535, 65537, 1<<24 - 1, 1<<24 + 1, 1<<30 - 3, 1<<30 - 1}
	for _, even := range evens {
		for _, odd := range odds {
			newest(t, fmt.Sprint(even, " and ", odd), made(t, 20, of(even, 20), of(odd, 20)), max(even, odd))
		}
		newest(t, fmt.Sprint(even, " alone"), made(t, 20, of(even, 20)), even)
	}
	for _, odd := range odds {
		newest(t, fmt.Sprint(odd, " alone"), made(t, 20, api.Block{}, of(odd, 20)), odd)
	}
}

// P7.2: superblocks that stand where they don't belong.
func TestSupersAtOtherPlaces(t *testing.T) {
	for _, gen := range []uint32{2, 3, 256, 257, 1<<30 - 2, 1<<30 - 1} {
		newest(t, "each other's", made(t, 20, of(gen|1, 20), of(gen&^1, 20)), 0)
		newest(t, "twice", made(t, 20, of(gen, 20), of(gen, 20)), gen)
		newest(t, "behind", made(t, 20, api.Block{}, api.Block{}, of(gen, 20), of(gen, 20)), 0)
		newest(t, "behind an older one", made(t, 20, api.Block{}, of(1, 20), of(gen, 20), of(gen, 20)), 1)
	}
	newest(t, "an odd one in block 0", made(t, 20, of(9, 20), of(3, 20)), 3)
	newest(t, "an even one in block 1", made(t, 20, of(2, 20), of(8, 20)), 2)
}

// P7.2: superblocks of another number of Blocks, be they the newest or not.
func TestSupersOfOtherDisks(t *testing.T) {
	for _, n := range []int{16, 19, 21, 128} {
		newest(t, "both", made(t, 20, of(4, n), of(5, n)), 0)
		newest(t, "block 0, newer", made(t, 20, of(6, n), of(5, 20)), 5)
		newest(t, "block 0, older", made(t, 20, of(4, n), of(5, 20)), 5)
		newest(t, "block 1, newer", made(t, 20, of(4, 20), of(5, n)), 4)
		newest(t, "block 1, older", made(t, 20, of(4, 20), of(3, n)), 4)
	}
}

// P7.2: two of rising Gens, either one spoilt at each byte: the other one; both: none.
func TestSpoiltSupers(t *testing.T) {
	for _, gen := range []uint32{4, 5} {
		for i := range api.Size {
			for _, x := range []byte{1, 2, 128, 255} {
				name := fmt.Sprint("Gen ", gen, ", byte ", i, " another by ", x)
				d := made(t, 20)
				wrote(t, d, plain(gen, 20))
				wrote(t, d, plain(gen+1, 20))
				newest(t, name, d, gen+1)
				spoil(d, gen, i, x)
				newest(t, name+", the older", d, gen+1)
				spoil(d, gen+1, i, x)
				newest(t, name+", both", d, 0)
				spoil(d, gen, i, x)
				newest(t, name+", the newer", d, gen)
			}
		}
	}
}

// spoil turns bits of a byte of the superblock's block, or turns them back.
func spoil(d *disk.Disk, gen uint32, i int, x byte) {
	b, _ := d.Read(int(gen % 2))
	b[i] ^= x
	d.Write(int(gen%2), b)
}

// P7.2: a right check doesn't make a superblock of one that may not be.
func TestNewestOfWrongSupers(t *testing.T) {
	for _, gen := range []uint32{0, 1 << 30, 1<<31 + 2} {
		newest(t, fmt.Sprint("Gen ", gen), made(t, 20, of(gen, 20), of(3, 20)), 3)
		newest(t, fmt.Sprint("Gen ", gen, " alone"), made(t, 20, of(gen, 20)), 0)
	}
	s := plain(6, 20)
	s.Root = 20
	newest(t, "a Root beyond", made(t, 20, block(text(s)), of(3, 20)), 3)
	s = plain(6, 20)
	s.Used = bitmap0(0, 5)
	newest(t, "block 1 not used", made(t, 20, block(text(s)), of(3, 20)), 3)
}

// P7.2: what is loose is read.
func TestNewestOfLooseWrites(t *testing.T) {
	d := made(t, 20)
	d.Write(0, of(8, 20))
	newest(t, "loose", d, 8)
	d.Write(1, of(9, 20))
	newest(t, "loose, two", d, 9)
	d.Write(1, api.Block{})
	newest(t, "loose, spoilt", d, 8)
	d.Crash([]byte{0, 1, 0}, -1)
	newest(t, "behind a crash", d, 9)
}

// P7.3: a Write of the next Gen cut at each write and sync, whatever is kept, torn or not: the next one or the one ahead; the next one, if Write had answered OK.
func TestCutWrite(t *testing.T) {
	for _, n := range []int{16, 20, 128} {
		for _, gen := range []uint32{1, 2, 3, 255, 256, 1 << 24, 1<<30 - 3, 1<<30 - 2} {
			for fuse := range 4 {
				for keep := range 4 {
					for torn := -1; torn < 3; torn++ {
						cutWrite(t, n, gen, fuse, []byte{byte(keep)}, torn)
						cutWrite(t, n, gen, fuse, nil, torn)
					}
				}
			}
		}
	}
}

func cutWrite(t *testing.T, n int, gen uint32, fuse int, keep []byte, torn int) {
	t.Helper()
	name := fmt.Sprint("of ", n, ", Gen ", gen, ", fuse ", fuse, ", keep ", keep, ", torn ", torn)
	ahead := plain(gen-1, n) // what the next one is written over: a superblock, or, ahead of Gen 1, none
	for _, old := range []api.Block{{}, block(text(ahead)), {100: 7}} {
		var l [2]api.Block
		l[gen%2], l[1-gen%2] = of(gen, n), old
		d := made(t, n, l[:]...)
		newest(t, name, d, gen)
		d.Fuse(fuse)
		e := Write(d, plain(gen+1, n))
		d.Crash(keep, torn)
		kept := len(keep) > 0 && keep[0]%2 == 1
		whole := torn != 0 || old[100] == 0 // half a block is enough for a superblock, if zeros stand behind it
		want := gen
		if fuse >= 2 || fuse == 1 && kept && whole {
			want = gen + 1
		}
		if (e == api.OK) != (fuse >= 2) {
			t.Errorf("%s: %d", name, e)
		}
		newest(t, name, d, want)
		if e := Write(d, plain(want+1, n)); want < 1<<30-1 && e != api.OK {
			t.Errorf("%s: Write behind the crash: %d", name, e)
		}
		newest(t, name+", behind another Write", d, min(want+1, 1<<30-1))
	}
}

// P7.3: loose writes of other blocks ahead of the Write, each of them kept or not, any of them torn.
func TestCutWriteBehindLooseOnes(t *testing.T) {
	for fuse := range 3 {
		for keep := range 16 {
			for torn := -1; torn < 5; torn++ {
				d := made(t, 20)
				wrote(t, d, plain(6, 20))
				for i := range 3 {
					d.Write(2+i, of(9, 20))
				}
				d.Fuse(fuse)
				Write(d, plain(7, 20))
				d.Crash([]byte{byte(keep), byte(keep >> 1), byte(keep >> 2), byte(keep >> 3)}, torn)
				want := uint32(6)
				if fuse == 2 || fuse == 1 && keep>>3 == 1 {
					want = 7
				}
				newest(t, fmt.Sprint("fuse ", fuse, ", keep ", keep, ", torn ", torn), d, want)
			}
		}
	}
}

// P7.3: long rows of Writes, each of the Gen next to Newest's, some of them cut: Newest is never another than these two.
func TestRowsOfCutWrites(t *testing.T) {
	x := uint32(1)
	next := func(n int) int {
		x = x*1664525 + 1013904223
		return int(x>>8) % n
	}
	for row := range 40 {
		d := made(t, 20)
		gen := uint32(1 + next(1<<20))
		wrote(t, d, plain(gen, 20))
		for step := range 200 {
			fuse, keep, torn := next(4), byte(next(256)), next(3)-1
			d.Fuse(fuse)
			e := Write(d, plain(gen+1, 20))
			d.Crash([]byte{keep}, torn)
			if e == api.OK || fuse == 1 && keep%2 == 1 {
				gen++
			}
			newest(t, fmt.Sprint("row ", row, ", step ", step), d, gen)
		}
	}
}

// The range-function stops where the one that ranges over it stops.
func TestRangeStopsWhenAsked(t *testing.T) {
	d := made(t, 20, of(4, 20), of(5, 20))
	var got []uint32
	for s := range supers(d) {
		got = append(got, s.Gen)
		break
	}
	for s := range supers(d) {
		got = append(got, s.Gen)
	}
	if len(got) != 3 || got[0] != 4 || got[1] != 4 || got[2] != 5 {
		t.Error(got)
	}
}
