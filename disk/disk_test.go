package disk

import (
	"math"
	"slices"
	"testing"

	"codex/api"
)

func made(t *testing.T, n int) *Disk {
	t.Helper()
	d, e := New(n)
	if d == nil || e != api.OK {
		t.Fatalf("New(%d): %v, %d", n, d, e)
	}
	return d
}

// filled is a block no two bytes of which are alike, so that a cut at a wrong byte shows.
func filled(seed byte) api.Block {
	var b api.Block
	for i := range b {
		b[i] = seed + byte(i)
	}
	return b
}

// torn is what a torn write of b over old leaves.
func torn(b, old api.Block) api.Block {
	for i := 64; i < 128; i++ {
		b[i] = old[i]
	}
	return b
}

func write1(t *testing.T, d *Disk, i int, b api.Block) {
	t.Helper()
	if e := d.Write(i, b); e != api.OK {
		t.Fatalf("Write(%d): %d", i, e)
	}
}

func sync1(t *testing.T, d *Disk) {
	t.Helper()
	if e := d.Sync(); e != api.OK {
		t.Fatalf("Sync: %d", e)
	}
}

func holds(t *testing.T, d *Disk, i int, want api.Block) {
	t.Helper()
	if b, e := d.Read(i); e != api.OK || b != want {
		t.Errorf("Read(%d): %v, %d; want %v", i, b, e, want)
	}
}

func stands(t *testing.T, d *Disk, loose, done int, down bool) {
	t.Helper()
	if d.Loose() != loose || d.Done() != done || d.Down() != down {
		t.Errorf("loose %d, done %d, down %v; want %d, %d, %v", d.Loose(), d.Done(), d.Down(), loose, done, down)
	}
}

// P1.1: how many blocks a disk may have.
func TestNewTakesLeastToMostBlocks(t *testing.T) {
	for _, n := range []int{math.MinInt, -16, -1, 0, 1, 15, 129, 1 << 32, math.MaxInt} {
		if d, e := New(n); d != nil || e != api.ErrArg {
			t.Errorf("New(%d): %v, %d", n, d, e)
		}
	}
	for n := 16; n <= 128; n++ {
		if d := made(t, n); d.Len() != n {
			t.Errorf("New(%d).Len(): %d", n, d.Len())
		}
	}
}

// P1.1: what a new disk is.
func TestNewIsZerosWithoutFuse(t *testing.T) {
	for _, n := range []int{16, 17, 127, 128} {
		d := made(t, n)
		stands(t, d, 0, 0, false)
		for i := range n {
			holds(t, d, i, api.Block{})
		}
		for range 1000 {
			sync1(t, d)
		}
		stands(t, d, 0, 1000, false)
	}
}

// P1.1: two disks have nothing in common.
func TestDisksAreApart(t *testing.T) {
	a, b := made(t, 16), made(t, 16)
	write1(t, a, 3, filled(1))
	a.Fuse(0)
	a.Sync()
	stands(t, b, 0, 0, false)
	holds(t, b, 3, api.Block{})
}

// P1.1: nil answers 0, false, ErrArg, and does nothing.
func TestNil(t *testing.T) {
	var d *Disk
	for _, i := range []int{math.MinInt, -1, 0, 1, 15, math.MaxInt} {
		if b, e := d.Read(i); b != (api.Block{}) || e != api.ErrArg {
			t.Errorf("Read(%d): %v, %d", i, b, e)
		}
		if e := d.Write(i, filled(1)); e != api.ErrArg {
			t.Errorf("Write(%d): %d", i, e)
		}
		d.Fuse(i)
		d.Crash([]byte{1, 1}, i)
	}
	if e := d.Sync(); e != api.ErrArg {
		t.Errorf("Sync: %d", e)
	}
	if d.Len() != 0 {
		t.Errorf("Len: %d", d.Len())
	}
	stands(t, d, 0, 0, false)
}

// P1.1: the first and the last block, and those beside them.
func TestPlacesAtTheEdges(t *testing.T) {
	for _, n := range []int{16, 17, 100, 128} {
		d := made(t, n)
		for k, i := range []int{0, 1, n - 2, n - 1} {
			write1(t, d, i, filled(byte(k+1)))
		}
		for _, i := range []int{math.MinInt, -n, -2, -1, n, n + 1, 256, 1 << 32, math.MaxInt} {
			if b, e := d.Read(i); b != (api.Block{}) || e != api.ErrArg {
				t.Errorf("of %d: Read(%d): %v, %d", n, i, b, e)
			}
			if e := d.Write(i, filled(9)); e != api.ErrArg {
				t.Errorf("of %d: Write(%d): %d", n, i, e)
			}
		}
		stands(t, d, 4, 4, false)
		for range 2 {
			for k, i := range []int{0, 1, n - 2, n - 1} {
				holds(t, d, i, filled(byte(k+1)))
			}
			holds(t, d, 2, api.Block{})
			holds(t, d, n-3, api.Block{})
			sync1(t, d)
		}
	}
}

// P1.1: the last loose write of a block is read; Sync does all in order.
func TestLastWriteIsRead(t *testing.T) {
	d := made(t, 16)
	write1(t, d, 5, filled(1))
	write1(t, d, 6, filled(2))
	write1(t, d, 5, filled(3))
	holds(t, d, 5, filled(3))
	holds(t, d, 6, filled(2))
	stands(t, d, 3, 3, false)
	sync1(t, d)
	stands(t, d, 0, 4, false)
	holds(t, d, 5, filled(3))
	holds(t, d, 6, filled(2))
	write1(t, d, 5, api.Block{})
	holds(t, d, 5, api.Block{})
	stands(t, d, 1, 5, false)
	d.Crash(nil, -1)
	holds(t, d, 5, filled(3))
}

// P1.1: reading counts for nothing and changes nothing.
func TestReadsAreFree(t *testing.T) {
	d := made(t, 16)
	write1(t, d, 5, filled(1))
	d.Fuse(1)
	for i := range 16 {
		d.Read(i)
	}
	d.Fuse(0)
	for i := range 16 {
		d.Read(i)
	}
	stands(t, d, 1, 1, false)
	holds(t, d, 5, filled(1))
}

// P1.1: a block that was told is the caller's own.
func TestBlocksAreCopied(t *testing.T) {
	d := made(t, 16)
	b := filled(1)
	write1(t, d, 5, b)
	b[0]++
	holds(t, d, 5, filled(1))
	c, _ := d.Read(5)
	c[0]++
	holds(t, d, 5, filled(1))
	sync1(t, d)
	c, _ = d.Read(5)
	c[0]++
	holds(t, d, 5, filled(1))
}

// P1.1: a fuse of n lets n writes and syncs through, of whichever kind.
func TestFuseCountsWritesAndSyncs(t *testing.T) {
	for n := range 9 {
		for kinds := range 1 << 9 {
			d := made(t, 16)
			d.Fuse(n)
			for k := range 9 {
				want := api.OK
				if k >= n {
					want = api.ErrDown
				}
				var e api.Errno
				if kinds>>k&1 == 1 {
					e = d.Sync()
				} else {
					e = d.Write(k, filled(1))
				}
				if e != want || d.Down() != (k >= n) || d.Done() != min(k+1, n) {
					t.Fatalf("fuse %d, kinds %b, %d: %d, down %v, done %d", n, kinds, k, e, d.Down(), d.Done())
				}
			}
		}
	}
}

// P1.1: at 0 it is the next write or sync that takes the disk down, and that one is not done.
func TestFuseOfNone(t *testing.T) {
	for _, sync := range []bool{false, true} {
		d := made(t, 16)
		write1(t, d, 4, filled(1))
		d.Fuse(0)
		stands(t, d, 1, 1, false)
		holds(t, d, 4, filled(1))
		e := api.OK
		if sync {
			e = d.Sync()
		} else {
			e = d.Write(4, filled(2))
		}
		if e != api.ErrDown {
			t.Errorf("sync %v: %d", sync, e)
		}
		stands(t, d, 1, 1, true)
		d.Crash([]byte{0, 1}, -1)
		holds(t, d, 4, api.Block{})
	}
}

// P1.1: the last one that a fuse lets through is whole.
func TestFuseOfOne(t *testing.T) {
	d := made(t, 16)
	write1(t, d, 4, filled(1))
	d.Fuse(1)
	sync1(t, d)
	stands(t, d, 0, 2, false)
	holds(t, d, 4, filled(1))
	if e := d.Sync(); e != api.ErrDown {
		t.Errorf("Sync: %d", e)
	}
	stands(t, d, 0, 2, true)
	d.Crash(nil, -1)
	holds(t, d, 4, filled(1))
	d.Fuse(1)
	write1(t, d, 5, filled(2))
	holds(t, d, 5, filled(2))
	stands(t, d, 1, 3, false)
	if e := d.Write(5, filled(3)); e != api.ErrDown {
		t.Errorf("Write: %d", e)
	}
	d.Crash([]byte{1, 1}, -1)
	holds(t, d, 5, filled(2))
}

// P1.1: below 0 there is no fuse; a new one takes the old one's place.
func TestFuseIsSetAnew(t *testing.T) {
	for _, n := range []int{-1, -2, -1000, math.MinInt} {
		d := made(t, 16)
		d.Fuse(0)
		d.Fuse(n)
		for range 50 {
			sync1(t, d)
		}
		stands(t, d, 0, 50, false)
	}
	d := made(t, 16)
	d.Fuse(math.MaxInt)
	sync1(t, d)
	d.Fuse(1)
	d.Fuse(3)
	for range 3 {
		sync1(t, d)
	}
	if e := d.Sync(); e != api.ErrDown {
		t.Errorf("Sync: %d", e)
	}
	stands(t, d, 0, 4, true)
}

// P1.1: a write of no block costs the fuse nothing, and does not take the disk down.
func TestWrongWritesAreFree(t *testing.T) {
	for _, n := range []int{0, 1, 2} {
		d := made(t, 16)
		d.Fuse(n)
		for _, i := range []int{-1, 16, -1, 16} {
			if e := d.Write(i, filled(1)); e != api.ErrArg {
				t.Errorf("fuse %d: Write(%d): %d", n, i, e)
			}
		}
		stands(t, d, 0, 0, false)
		for range n {
			sync1(t, d)
		}
		if e := d.Sync(); e != api.ErrDown {
			t.Errorf("fuse %d: Sync: %d", n, e)
		}
	}
}

// P1.1: a disk that is down does nothing, whatever its fuse, but it still tells how it stands.
func TestDown(t *testing.T) {
	d := made(t, 16)
	write1(t, d, 4, filled(1))
	d.Fuse(0)
	d.Sync()
	for _, n := range []int{math.MinInt, -1, 0, 1, 100} {
		d.Fuse(n)
		if b, e := d.Read(4); b != (api.Block{}) || e != api.ErrDown {
			t.Errorf("fuse %d: Read: %v, %d", n, b, e)
		}
		if e := d.Write(4, filled(2)); e != api.ErrDown {
			t.Errorf("fuse %d: Write: %d", n, e)
		}
		if e := d.Sync(); e != api.ErrDown {
			t.Errorf("fuse %d: Sync: %d", n, e)
		}
		for _, i := range []int{-1, 16} {
			if b, e := d.Read(i); b != (api.Block{}) || e != api.ErrArg {
				t.Errorf("fuse %d: Read(%d): %v, %d", n, i, b, e)
			}
			if e := d.Write(i, filled(2)); e != api.ErrArg {
				t.Errorf("fuse %d: Write(%d): %d", n, i, e)
			}
		}
		stands(t, d, 1, 1, true)
		if d.Len() != 16 {
			t.Errorf("Len: %d", d.Len())
		}
	}
	d.Crash([]byte{1}, -1)
	stands(t, d, 0, 1, false)
	holds(t, d, 4, filled(1))
}

// P1.2: the example of the chapter.
func TestCrashKeepsTheFirst(t *testing.T) {
	d := made(t, 16)
	write1(t, d, 3, filled(1))
	write1(t, d, 4, filled(2))
	d.Crash([]byte{1, 0}, -1)
	holds(t, d, 3, filled(1))
	holds(t, d, 4, api.Block{})
	stands(t, d, 0, 2, false)
}

// P1.2: which writes of three, two of them of one block, are done, and how.
func TestCrashEdges(t *testing.T) {
	x, y := filled(100), filled(200)
	a, b, c := filled(1), filled(20), filled(50)
	for _, v := range []struct {
		name         string
		keep         []byte
		torn         int
		third, fifth api.Block
	}{
		{"nothing kept", nil, -1, x, y},
		{"nothing kept, one torn", nil, 0, x, y},
		{"empty keep", []byte{}, 1, x, y},
		{"keep too short", []byte{1}, -1, a, y},
		{"keep too short by one", []byte{1, 1}, -1, a, b},
		{"keep just as long", []byte{1, 1, 1}, -1, c, b},
		{"keep longer", []byte{1, 1, 1, 1, 1, 1}, -1, c, b},
		{"keep longer, torn beyond", []byte{1, 1, 1, 1, 1}, 3, c, b},
		{"even bytes", []byte{0, 2, 254}, -1, x, y},
		{"odd bytes", []byte{3, 255, 129}, -1, c, b},
		{"torn and kept", []byte{1}, 0, torn(a, x), y},
		{"torn, second", []byte{0, 1}, 1, x, torn(b, y)},
		{"torn, not kept", []byte{1, 0, 0}, 1, a, y},
		{"torn, beyond keep", []byte{1}, 2, a, y},
		{"torn over one that is done", []byte{1, 0, 1}, 2, torn(c, a), y},
		{"torn over one that is not", []byte{0, 0, 1}, 2, torn(c, x), y},
		{"torn under a later one", []byte{1, 0, 1}, 0, c, y},
		{"torn counts all loose ones", []byte{0, 1, 1}, 0, c, b},
		{"torn far below", []byte{1, 1, 1}, math.MinInt, c, b},
		{"torn far above", []byte{1, 1, 1}, math.MaxInt, c, b},
		{"torn just above", []byte{1, 1, 1}, 3, c, b},
	} {
		d := made(t, 16)
		write1(t, d, 3, x)
		write1(t, d, 5, y)
		sync1(t, d)
		write1(t, d, 3, a)
		write1(t, d, 5, b)
		write1(t, d, 3, c)
		t.Run(v.name, func(t *testing.T) {
			d.Crash(v.keep, v.torn)
			holds(t, d, 3, v.third)
			holds(t, d, 5, v.fifth)
			holds(t, d, 4, api.Block{})
			stands(t, d, 0, 6, false)
		})
	}
}

// P1.2: a crash takes the fuse away, burnt or not, and a second crash finds nothing loose.
func TestCrashBringsTheDiskBack(t *testing.T) {
	for _, n := range []int{-1, 0, 1, 2, 5} {
		d := made(t, 16)
		write1(t, d, 3, filled(1))
		d.Fuse(n)
		d.Sync()
		done := d.Done()
		d.Crash([]byte{1}, -1)
		stands(t, d, 0, done, false)
		d.Crash([]byte{1, 1}, 0)
		stands(t, d, 0, done, false)
		holds(t, d, 3, filled(1))
		for range 20 {
			sync1(t, d)
		}
		write1(t, d, 4, filled(2))
		stands(t, d, 1, done+21, false)
	}
}

// P1.2: what is handed in stays as it is and is not kept, its spare room included.
func TestCrashLeavesKeepAlone(t *testing.T) {
	room := []byte{1, 0, 3, 77, 78}
	d := made(t, 16)
	for i := range 5 {
		write1(t, d, i, filled(byte(i+1)))
	}
	d.Crash(room[:3], 1)
	if !slices.Equal(room, []byte{1, 0, 3, 77, 78}) {
		t.Errorf("keep: %v", room)
	}
	holds(t, d, 3, api.Block{})
	write1(t, d, 7, filled(9))
	room[0] = 0
	holds(t, d, 7, filled(9))
	holds(t, d, 0, filled(1))
}

// P1.3: what was synced, and not written since, is there behind any crash: all keeps of four loose writes, each torn place, behind each fuse.
func TestSyncedIsThereBehindAnyCrash(t *testing.T) {
	for fuse := range 6 {
		for keeps := range 1 << 4 {
			for torn := -1; torn <= 4; torn++ {
				d := made(t, 16)
				for i := range 16 {
					write1(t, d, i, filled(byte(i)))
				}
				sync1(t, d)
				d.Fuse(fuse)
				for k, i := range []int{0, 7, 15, 7} {
					d.Write(i, filled(byte(100+k)))
				}
				keep := make([]byte, 4)
				for k := range keep {
					keep[k] = byte(keeps >> k & 1)
				}
				d.Crash(keep, torn)
				for i := range 16 {
					if i != 0 && i != 7 && i != 15 {
						holds(t, d, i, filled(byte(i)))
					}
				}
			}
		}
	}
}

// P1.3: what a second sync laid over the first is there, too, be it by zeros.
func TestSyncedAgainIsThere(t *testing.T) {
	d := made(t, 128)
	for round := range 3 {
		for i := range 128 {
			write1(t, d, i, filled(byte(i+round)))
		}
		write1(t, d, 127, api.Block{})
		sync1(t, d)
		d.Crash([]byte{1, 1, 1}, round)
		for i := range 127 {
			holds(t, d, i, filled(byte(i+round)))
		}
		holds(t, d, 127, api.Block{})
	}
}

// plain is a disk by the chapter's words alone: all that lasts, and a list of loose writes.
type plain struct {
	lasts  [][]byte
	places []int
	texts  [][]byte
	fuse   int
	fused  bool
	down   bool
	done   int
}

func (p *plain) step(write bool, i int, b api.Block) api.Errno {
	if write && (i < 0 || i >= len(p.lasts)) {
		return api.ErrArg
	}
	if p.down || p.fused && p.fuse == 0 {
		p.down = true
		return api.ErrDown
	}
	p.fuse--
	p.done++
	if write {
		p.places, p.texts = append(p.places, i), append(p.texts, b[:])
		return api.OK
	}
	for k := range p.places {
		p.lasts[p.places[k]] = p.texts[k]
	}
	p.places, p.texts = nil, nil
	return api.OK
}

func (p *plain) read(i int) (api.Block, api.Errno) {
	if i < 0 || i >= len(p.lasts) {
		return api.Block{}, api.ErrArg
	}
	if p.down {
		return api.Block{}, api.ErrDown
	}
	b := p.lasts[i]
	for k := range p.places {
		if p.places[k] == i {
			b = p.texts[k]
		}
	}
	return api.Block(b), api.OK
}

func (p *plain) crash(keep []byte, torn int) {
	for k, i := range p.places {
		if k < len(keep) && keep[k]&1 != 0 {
			b := slices.Clone(p.texts[k])
			if k == torn {
				b = slices.Concat(b[:64], p.lasts[i][64:])
			}
			p.lasts[i] = b
		}
	}
	p.places, p.texts, p.fused, p.down = nil, nil, false, false
}

// P1.1, P1.2, P1.3: long rows of calls answer as the plain disk does.
func TestLongRows(t *testing.T) {
	for seed := range uint32(60) {
		state := seed*2654435761 + 1
		roll := func(n int) int {
			state = state*1664525 + 1013904223
			return int(state>>8) % n
		}
		size := []int{16, 17, 128}[roll(3)]
		d, p := made(t, size), &plain{lasts: make([][]byte, size)}
		for i := range p.lasts {
			p.lasts[i] = make([]byte, 128)
		}
		for range 400 {
			i, b := roll(8)-1, filled(byte(roll(256)))
			if roll(3) == 0 {
				i = size - roll(4)
			}
			var got, want api.Errno
			switch roll(12) {
			case 0:
				keep := make([]byte, roll(8))
				for k := range keep {
					keep[k] = byte(roll(256))
				}
				torn := roll(8) - 1
				d.Crash(keep, torn)
				p.crash(keep, torn)
			case 1:
				n := roll(12) - 2
				d.Fuse(n)
				p.fuse, p.fused = n, n >= 0
			case 2, 3:
				got, want = d.Sync(), p.step(false, 0, b)
			default:
				got, want = d.Write(i, b), p.step(true, i, b)
			}
			if got != want {
				t.Fatalf("seed %d: error %d, want %d", seed, got, want)
			}
			stands(t, d, len(p.places), p.done, p.down)
			for j := -1; j <= size; j++ {
				x, e := d.Read(j)
				if y, f := p.read(j); x != y || e != f {
					t.Fatalf("seed %d: Read(%d): %v, %d; want %v, %d", seed, j, x, e, y, f)
				}
			}
		}
	}
}
