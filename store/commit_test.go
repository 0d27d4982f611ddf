package store

import (
	"fmt"
	"math"
	"slices"
	"strings"
	"testing"

	"codex/api"
)

// P8.3: a Commit of nothing is one: no block, a sync, the superblock of the next Gen.
func TestCommitOfNothing(t *testing.T) {
	for n := 16; n <= 128; n++ {
		b := formatted(t, n)
		for gen := uint32(3); gen < 6; gen++ {
			b.told("nothing", b.commit(n-2, n-2), api.OK)
			if x := b.s.Super(); x != (api.Super{Gen: gen, Blocks: n, Used: bits(0, 1)}) {
				t.Error(x)
			}
		}
		b.mount()
		b.put(1, "one")
		b.commit(0, 0)
		// Nothing new: the index goes elsewhere, what lasts stays where it is.
		b.told("nothing new", b.commit(0, 0), api.OK)
		if l, x := b.s.Entries(), b.s.Super(); l[0].Place != 2 || x.Root != 6 || x.Used != bits(0, 1, 2, 5, 6) {
			t.Error(l, x)
		}
		b.commit(0, 0)
		if x := b.s.Super(); x.Root != 4 || x.Used != bits(0, 1, 2, 3, 4) {
			t.Error(x)
		}
		b.mount()
	}
}

// P8.3: each number of entries, so that the index takes a leaf more now and then, until the disk is full.
func TestEachNumberOfEntries(t *testing.T) {
	for _, n := range []int{16, 17, 64, 127, 128} {
		b := formatted(t, n)
		for i := 0; ; i++ {
			b.put(1+i%6, fmt.Sprint("object ", i))
			if b.commit(0, 0) != api.OK {
				// As many as there are, the index as it lasts, and the index anew.
				if size := len(b.p.lasts); size+2*((size+2)/3+1)+4 < n-2 {
					t.Errorf("of %d blocks: full of %d entries", n, size)
				}
				break
			}
		}
		b.mount()
		// All at once: there is one index alone.
		b = formatted(t, n)
		most := 0
		for most+1+(most+3)/3+1 <= n-2 {
			most++
		}
		for i := range most {
			b.put(1, fmt.Sprint("object ", i))
		}
		b.told("as many as fit", b.commit(0, 0), api.OK)
		b.mount()
		b = formatted(t, n)
		for i := range most + 1 {
			b.put(1, fmt.Sprint("object ", i))
		}
		b.told("one more", b.commit(0, 0), api.ErrFull)
		b.mount()
		b = formatted(t, n)
		for i := range 500 {
			b.put(1, fmt.Sprint("object ", i))
		}
		b.told("far too many", b.commit(0, 0), api.ErrFull)
		b.mount()
	}
}

// P8.3: new objects take the least run that is long enough, in the order of Keys, not of Puts; the index what is left below and above.
func TestPlaces(t *testing.T) {
	b := formatted(t, 32)
	for i, n := range []int{0, 300, 1000, 130, 10, 250, 500} {
		b.put(1+i%6, strings.Repeat(string(rune('a'+i)), n))
	}
	b.commit(0, 0)
	b.mount()
	// Every other one goes: holes of one block and of more.
	for i, key := range b.p.keys() {
		if i%2 == 0 {
			b.drop(key)
		}
	}
	b.commit(0, 0)
	for i, n := range []int{122, 3, 249, 122, 121} {
		b.put(2+i%5, strings.Repeat(string(rune('m'+i)), n))
	}
	b.told("into the holes", b.commit(0, 0), api.OK)
	b.mount()
}

// P8.3: reserve and run of just what is not Used behind the Commit, and of one more; below 1 run asks nothing, below 0 reserve neither.
func TestReserveAndRun(t *testing.T) {
	for _, n := range []int{16, 20, 128} {
		for _, c := range []struct {
			reserve, run int
			want         api.Errno
		}{
			{0, 0, api.OK}, {-1, -1, api.OK}, {math.MinInt, math.MinInt, api.OK}, {0, 1, api.OK},
			// The object stands in 2, the index in 5 and 6; 3 and 4, and all from 7 on, are free.
			{n - 5, 0, api.OK}, {n - 4, 0, api.ErrFull}, {math.MaxInt, 0, api.ErrFull}, {n - 5, -7, api.OK},
			{0, n - 7, api.OK}, {0, n - 6, api.ErrFull}, {0, math.MaxInt, api.ErrFull}, {-5, n - 6, api.ErrFull},
			{n - 5, n - 7, api.OK}, {n - 4, n - 7, api.ErrFull}, {n - 5, n - 6, api.ErrFull}, {n - 4, n - 6, api.ErrFull},
			{n, 0, api.ErrFull}, {0, n, api.ErrFull}, {0, 128, api.ErrFull}, {0, 129, api.ErrFull},
		} {
			b := formatted(t, n)
			got := b.put(6, "last")
			b.commit(0, 0) // 2; 3, 4
			b.setLog(got)
			lasts := b.s.Super()
			// The index goes to 5 and 6; what it took, 3 and 4, is free then.
			b.told(fmt.Sprintf("of %d: Commit(%d, %d)", n, c.reserve, c.run), b.commit(c.reserve, c.run), c.want)
			x := b.s.Super()
			if c.want == api.OK && (x.Used != bits(0, 1, 2, 5, 6) || x.Log != got) || c.want != api.OK && x != lasts {
				t.Error(x)
			}
			if c.want != api.OK {
				b.told("all is aborted, the log too", b.drop(got), api.OK)
			}
			b.mount()
		}
	}
}

// P8.3: a disk of which nothing is left: no reserve, no run.
func TestNothingLeft(t *testing.T) {
	for _, c := range []struct {
		reserve, run int
		want         api.Errno
	}{{0, 0, api.OK}, {-1, -1, api.OK}, {1, 0, api.ErrFull}, {0, 1, api.ErrFull}, {0, 2, api.ErrFull}} {
		for objects := 12; objects <= 93; objects++ {
			n := 2 + objects + (objects+2)/3 + 1 // the superblocks, the objects, the leaves, the root
			if n > 128 {
				continue
			}
			b := formatted(t, n)
			for i := range objects {
				b.put(1, fmt.Sprint(i))
			}
			b.told(fmt.Sprintf("of %d: Commit(%d, %d)", n, c.reserve, c.run), b.commit(c.reserve, c.run), c.want)
			b.mount()
		}
	}
}

// P8.3: full for an object, for a leaf, for the root: all is aborted, and nothing written.
func TestFullAborts(t *testing.T) {
	for n := 1; n <= 6; n++ {
		b := formatted(t, 16)
		old := b.put(1, strings.Repeat("x", 800)) // 7 blocks, 2 to 8
		b.ref(old, 4)
		b.commit(0, 0) // the index in 9 and 10: five are left
		b.ref(old, 1)
		b.setLog(b.put(6, strings.Repeat("y", 128*n-7)))
		want := api.OK
		if n+2 > 5 {
			want = api.ErrFull
		}
		b.told(fmt.Sprint(n, " blocks and two more"), b.commit(0, 0), want)
		b.mount()
	}
}

// P8.3: what lasts is never written over, whether it is pending or not: neither dropped objects nor the index.
func TestWhatLastsStays(t *testing.T) {
	b := formatted(t, 16)
	old := b.put(1, strings.Repeat("x", 700)) // 6 blocks, 2 to 7
	b.commit(0, 0)                            // the index in 8 and 9
	b.drop(old)
	b.put(2, strings.Repeat("y", 600)) // 5 blocks: 10 to 14; one is left, of two
	b.told("as long as it lasts", b.commit(0, 0), api.ErrFull)
	b.drop(old)
	b.told("dropped", b.commit(0, 0), api.OK)
	b.put(2, strings.Repeat("y", 600))
	b.told("then", b.commit(0, 0), api.OK)
	if l := b.s.Entries(); len(l) != 1 || l[0].Place != 2 {
		t.Error(l)
	}
	b.mount()
}

// at is both on a disk of 16 blocks, of no entries, of that Gen.
func at(t *testing.T, gen uint32) *both {
	t.Helper()
	b := &both{t: t, p: plainStore(16)}
	b.p.gen = gen
	b.p.image[0] = api.Block{}
	b.p.image[gen%2] = superBlock(b.p.super())
	b.d = diskOf(t, 16, map[int]api.Block{int(gen % 2): b.p.image[gen%2]})
	b.mount()
	return b
}

// P8.3: the last Gen is 2^30 - 1: behind it all is aborted, and nothing written, be there room or not.
func TestLastGen(t *testing.T) {
	for _, gen := range []uint32{1, 254, 255, 256, 65535, 1<<24 - 1, 1<<29 - 1, 1 << 29, 1<<30 - 4, 1<<30 - 3, 1<<30 - 2, 1<<30 - 1} {
		b := at(t, gen)
		for i := range 4 {
			b.put(1, fmt.Sprint(i))
			b.setLog(digest(1, fmt.Sprint(i)))
			want := api.OK
			if gen+uint32(i)+1 >= 1<<30 {
				want = api.ErrLimit
			}
			b.told(fmt.Sprintf("Gen %d and %d", gen, i), b.commit(0, 0), want)
			b.mount()
		}
	}
	b := at(t, 1<<30-1)
	b.put(1, strings.Repeat("x", 1000))
	b.put(2, strings.Repeat("x", 1000))
	b.told("no room either", b.commit(math.MaxInt, math.MaxInt), api.ErrLimit)
	b.mount()
}

// P8.2, P8.3: any calls, one behind the other, on disks of several sizes, with a Mount now and then.
func TestManyCalls(t *testing.T) {
	next := uint32(7)
	random := func(n int) int {
		next = next*1664525 + 1013904223
		return int(next>>8) % n
	}
	for _, n := range []int{16, 17, 24, 40, 64, 128} {
		b := formatted(t, n)
		full := 0
		for range 1500 {
			body := strings.Repeat(string(rune('a'+random(n/4))), []int{0, 1, 121, 122, 250, 600, 1000}[random(7)])
			kind := 1 + random(2)
			key := digest(kind, body)
			switch random(12) {
			case 0, 1, 2:
				for i := range n / 12 {
					b.put(kind, body[min(i, len(body)):])
				}
			case 3:
				b.ref(key, random(9)-4)
			case 4, 5, 6, 7:
				for _, key := range b.p.keys() {
					if random(3) == 0 {
						b.ref(key, -b.p.pending[key].refs)
						b.drop(key)
					}
				}
			case 8:
				b.setLog(key)
			case 9, 10:
				if b.commit(random(n/3), random(n/4)) == api.ErrFull {
					full++
				}
			case 11:
				switch random(4) {
				case 0:
					b.abort()
				case 1:
					b.mount()
				case 2:
					b.setLog(api.Digest{})
				}
			}
			b.same("many")
		}
		if b.p.gen < 20 || full < 5 {
			t.Errorf("of %d blocks: Gen %d, full %d times", n, b.p.gen, full)
		}
	}
}

// change is what is pending ahead of a Commit that is cut: one is dropped, one kept with other Refs, two are new, and the log is another.
func change(b *both) {
	b.drop(digest(1, "old"))
	b.ref(digest(2, "kept"), 3)
	b.put(3, strings.Repeat("new", 50))
	b.setLog(b.put(6, "newer log"))
}

// cut is both on a disk of 20 blocks with three objects, with change pending.
func cut(t *testing.T) *both {
	t.Helper()
	b := formatted(t, 20)
	b.put(1, "old")
	b.put(2, "kept")
	b.setLog(b.put(6, "log"))
	b.commit(0, 0)
	change(b)
	return b
}

// P8.3: an error of the disk, at each write and each sync: the store is dead, all calls tell so, Super tells what lasts.
func TestDead(t *testing.T) {
	const all = 2 + 1 + 2 + 1 + 1 + 2 // the new objects, the index of two leaves, a sync, the superblock, a sync
	for fuse := range all + 2 {
		b := cut(t)
		lasts, done := b.s.Super(), b.d.Done()
		b.d.Fuse(fuse)
		e := b.s.Commit(0, 0)
		if fuse >= all {
			b.told("not cut", e, api.OK)
			b.told("not cut", b.p.commit(0, 0), api.OK)
			b.same("not cut")
			continue
		}
		name := fmt.Sprint("cut at ", fuse)
		b.told(name, e, api.ErrDown)
		if b.s.Super() != lasts || !b.s.Dead() || b.d.Done() != done+fuse {
			t.Error(name, b.s.Super(), b.s.Dead(), b.d.Done()-done)
		}
		silent(t, name, b.s, api.ErrDown)
		b.crashed()
		done = b.d.Done()
		silent(t, name+", and the disk is back", b.s, api.ErrDown)
		if b.s.Super() != lasts || !b.s.Dead() || b.d.Done() != done {
			t.Error(name, b.s.Super(), b.s.Dead())
		}
		b.mount()
		change(b)
		b.told("anew", b.commit(0, 0), api.OK)
		b.mount()
	}
}

// P8.3: a disk that is down, of which the store doesn't know yet: what needs no disk is answered, what needs it tells ErrDown.
func TestDownUnawares(t *testing.T) {
	b := cut(t)
	b.d.Fuse(0)
	b.d.Sync()
	if b.s.Dead() {
		t.Error("dead")
	}
	b.told("too many blocks", b.s.Commit(20, 0), api.ErrFull)
	if e := b.s.Commit(0, 0); e != api.ErrDown || !b.s.Dead() {
		t.Error(e)
	}
	silent(t, "behind Commit", b.s, api.ErrDown)
	b = cut(t)
	b.d.Fuse(0)
	b.d.Sync()
	if kind, body, e := b.s.Get(digest(6, "newer log")); kind != 6 || string(body) != "newer log" || e != api.OK {
		t.Error("Get of a new one:", kind, body, e)
	}
	if kind, body, e := b.s.Get(digest(2, "kept")); kind != 0 || len(body) != 0 || e != api.ErrDown {
		t.Error("Get of what lasts:", kind, body, e)
	}
	if !b.s.Dead() {
		t.Error("not dead")
	}
	silent(t, "behind Get", b.s, api.ErrDown)
}

// Get of what was spoilt behind the store's back tells no body.
func TestSpoilt(t *testing.T) {
	b := cut(t)
	b.d.Write(b.p.pending[digest(2, "kept")].place, api.Block{})
	if kind, body, e := b.s.Get(digest(2, "kept")); kind != 0 || len(body) != 0 || e != api.ErrCorrupt {
		t.Error(kind, body, e)
	}
}

// P8.4: a Commit cut at each write and sync, whatever is kept of what is loose, each block torn or none: Mount has what was ahead, or what is behind, whole; and goes on from there.
func TestCrash(t *testing.T) {
	fresh := cut(t)
	fresh.p.commit(0, 0)
	behind := fresh.p
	const ahead, all = 7, 10 // things done ahead of the superblock's write; in all, and one more: not cut
	for fuse := range all {
		blocks := min(fuse, ahead-1)
		for keep := range 1 << blocks {
			for torn := -1; torn < blocks; torn++ {
				b := cut(t)
				b.d.Fuse(fuse)
				e := b.s.Commit(0, 0)
				if loose := b.d.Loose(); loose > blocks {
					t.Fatal(fuse, loose)
				}
				kept := make([]byte, blocks)
				for i := range kept {
					kept[i] = byte(keep >> i & 1)
				}
				b.d.Crash(kept, torn)
				mountsOne(t, fmt.Sprintf("fuse %d, kept %v, torn %d", fuse, kept, torn), b, behind, e, fuse)
			}
		}
	}
}

// mountsOne holds what is mounted behind a crash against what lasted ahead of the Commit and what lasts behind it.
func mountsOne(t *testing.T, name string, b *both, behind *plain, e api.Errno, fuse int) {
	t.Helper()
	done := b.d.Done()
	s, f := Mount(b.d)
	if f != api.OK || b.d.Done() != done {
		t.Fatalf("%s: Mount: %d", name, f)
	}
	switch s.Super().Gen {
	case behind.gen:
		if fuse < 8 {
			t.Fatal(name, "the superblock is not written yet")
		}
		behind.same(t, name, s)
	default:
		if e == api.OK {
			t.Fatal(name, "it had answered")
		}
		b.p.abort()
		b.p.same(t, name, s)
	}
	// A crash behind the Mount changes nothing, and the next Commit goes on.
	b.d.Crash(nil, -1)
	if again, f := Mount(b.d); f != api.OK || again.Super() != s.Super() {
		t.Fatal(name, "mounted again:", f)
	}
	s.Put(4, []byte("next"))
	if f := s.Commit(0, 0); f != api.OK {
		t.Fatal(name, "the next Commit:", f)
	}
	if again, f := Mount(b.d); f != api.OK || again.Super() != s.Super() || len(again.Entries()) != len(s.Entries()) {
		t.Fatal(name, "mounted behind it:", f)
	}
}

// The blocks that are written come one by one: whoever stops gets no more of them.
func TestBlocksStop(t *testing.T) {
	b := cut(t)
	next := b.s.Super()
	next.Gen++
	p, e := b.s.plan(next)
	if e != api.OK {
		t.Fatal(e)
	}
	var all []int
	for place := range p.blocks() {
		all = append(all, place)
	}
	if len(all) != blocksOf(b.p) {
		t.Error(all)
	}
	for n := range all {
		var got []int
		for place := range p.blocks() {
			got = append(got, place)
			if len(got) == n+1 {
				break
			}
		}
		if !slices.Equal(got, all[:n+1]) {
			t.Error(got)
		}
	}
	for key := range b.s.objects.all() {
		if key != b.p.keys()[0] {
			t.Error("not the first:", key)
		}
		break
	}
}
