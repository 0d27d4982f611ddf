package bitmap

import (
	"fmt"
	"math"
	"testing"

	"codex/api"
)

// plain is a bitmap by the chapter's words alone: a bool for each block.
type plain [api.MaxBlocks]bool

// bits is the plain bitmap as api says it: block b is bit b%8 of byte b/8.
func (p plain) bits() api.Bitmap {
	var m api.Bitmap
	for b, used := range p {
		if used {
			m[b/8] += []byte{1, 2, 4, 8, 16, 32, 64, 128}[b%8]
		}
	}
	return m
}

func (p plain) count(blocks int) int {
	n := 0
	for b, used := range p {
		if used && b < blocks {
			n++
		}
	}
	return n
}

// run tries every block from 0 on; -1, if there is no run.
func (p plain) run(blocks, n int) int {
	for from := 0; from < blocks; from++ {
		if n <= blocks-from && p.free(from, n) {
			return from
		}
	}
	return -1
}

func (p plain) free(from, n int) bool {
	for b := from; b < from+n; b++ {
		if p[b] {
			return false
		}
	}
	return true
}

func (p plain) with(from, n int) plain {
	for b := from; b < from+n; b++ {
		p[b] = true
	}
	return p
}

func of(l ...int) plain {
	var p plain
	for _, b := range l {
		p[b] = true
	}
	return p
}

func all() plain { return plain{}.with(0, api.MaxBlocks) }

// but is a bitmap of everything, but for some blocks.
func but(l ...int) plain {
	p := all()
	for _, b := range l {
		p[b] = false
	}
	return p
}

// mixed is a bitmap of about one used block in every, by a plain rule.
func mixed(seed, every uint32) plain {
	var p plain
	x := seed*2654435761 + 1
	for b := range p {
		x = x*1664525 + 1013904223
		p[b] = (x>>16)%every == 0
	}
	return p
}

// samples is bitmaps of nothing, of everything, of one block, of all but one, and mixed ones.
func samples() []plain {
	l := []plain{{}, all(), of(0, 1, 3), of(0, 1, 3, 64, 127), but(0, 127), of(0, 127)}
	for _, b := range []int{0, 1, 7, 8, 15, 16, 63, 64, 119, 120, 126, 127} {
		l = append(l, of(b), but(b))
	}
	for seed := range uint32(20) {
		l = append(l, mixed(seed, 2+seed))
	}
	return l
}

// noBlocks is numbers that are no block.
func noBlocks() []int {
	return []int{math.MinInt, math.MinInt + 1, math.MinInt + 128, -1 << 32, -256, -129, -128, -127, -9, -8, -7, -1,
		128, 129, 135, 136, 255, 256, 1 << 31, 1 << 32, 1<<32 + 5, 1 << 62, math.MaxInt - 128, math.MaxInt - 1, math.MaxInt}
}

func takes(t *testing.T, p plain, from, n int) {
	t.Helper()
	if m, e := With(p.bits(), from, n); m != p.with(from, n).bits() || e != api.OK {
		t.Errorf("With(%v, %d, %d): %v, %d", p.bits(), from, n, m, e)
	}
}

func refuses(t *testing.T, p plain, from, n int, want api.Errno) {
	t.Helper()
	if m, e := With(p.bits(), from, n); m != (api.Bitmap{}) || e != want {
		t.Errorf("With(%v, %d, %d): %v, %d, not %d", p.bits(), from, n, m, e, want)
	}
}

func runIs(t *testing.T, p plain, blocks, n, want int, e api.Errno) {
	t.Helper()
	if got, f := Run(p.bits(), blocks, n); got != want || f != e {
		t.Errorf("Run(%v, %d, %d): %d, %d, not %d, %d", p.bits(), blocks, n, got, f, want, e)
	}
}

// P4.1: each block of each bitmap is used as its own bit says.
func TestHasEveryBlock(t *testing.T) {
	for _, p := range samples() {
		m := p.bits()
		for b, used := range p {
			if Has(m, b) != used {
				t.Errorf("Has(%v, %d) is not %v", m, b, used)
			}
		}
	}
}

// P4.1: bit b%8 of byte b/8, the least bit first.
func TestHasReadsTheBitThatApiNames(t *testing.T) {
	m := api.Bitmap{0: 0x01, 1: 0x80, 15: 0x40}
	for b := range api.MaxBlocks {
		if Has(m, b) != (b == 0 || b == 15 || b == 126) {
			t.Errorf("Has of block %d", b)
		}
	}
}

// P4.1: what is no block is used, whatever the bitmap.
func TestHasOfNoBlock(t *testing.T) {
	for _, p := range samples() {
		for _, b := range noBlocks() {
			if !Has(p.bits(), b) {
				t.Errorf("Has(%v, %d)", p.bits(), b)
			}
		}
	}
}

// P4.1: all runs of all bitmaps: taken where all of it is free, and the others stay as they were; else ErrForm.
func TestWithEveryRun(t *testing.T) {
	for _, p := range samples() {
		for from := range api.MaxBlocks {
			for n := 1; n <= api.MaxBlocks-from; n++ {
				if p.free(from, n) {
					takes(t, p, from, n)
				} else {
					refuses(t, p, from, n, api.ErrForm)
				}
			}
		}
	}
}

// P4.1: the edges: one block and all, from the first one on and up to the last one.
func TestWithAtTheEdges(t *testing.T) {
	takes(t, plain{}, 0, 1)
	takes(t, plain{}, 127, 1)
	takes(t, plain{}, 0, 128)
	takes(t, plain{}, 1, 127)
	takes(t, of(0, 127), 1, 126)
	refuses(t, of(0), 0, 1, api.ErrForm)
	refuses(t, of(127), 127, 1, api.ErrForm)
	refuses(t, of(127), 0, 128, api.ErrForm)
	refuses(t, of(0), 0, 128, api.ErrForm)
	refuses(t, of(64), 0, 128, api.ErrForm)
	refuses(t, all(), 0, 128, api.ErrForm)
}

// P4.1: no blocks or fewer, and blocks that are none, are ErrArg; so they are, too, where a used block would be ErrForm.
func TestWithRefusesWhatIsNoRun(t *testing.T) {
	for _, p := range []plain{{}, all(), of(0, 127), mixed(3, 2)} {
		for _, n := range []int{0, -1, -2, -128, -1 << 32, math.MinInt + 1, math.MinInt} {
			for _, from := range []int{0, 1, 5, 127, 128, -1, math.MaxInt, math.MinInt} {
				refuses(t, p, from, n, api.ErrArg)
			}
		}
		for _, from := range noBlocks() {
			for _, n := range []int{1, 2, 127, 128, 129, 256, 1 << 32, 1 << 62, math.MaxInt - 127, math.MaxInt} {
				refuses(t, p, from, n, api.ErrArg)
			}
		}
		for from := range api.MaxBlocks {
			for _, n := range []int{129 - from, 130 - from, 256 - from, 1<<32 - from, 1<<32 + 1, 1 << 62, math.MaxInt - from, math.MaxInt} {
				refuses(t, p, from, n, api.ErrArg)
			}
		}
	}
}

// P4.1: just what is used in one of the two, or in both.
func TestOr(t *testing.T) {
	for _, p := range samples() {
		for _, q := range samples() {
			want := p
			for b, used := range q {
				want[b] = want[b] || used
			}
			if got := Or(p.bits(), q.bits()); got != want.bits() {
				t.Errorf("Or(%v, %v): %v", p.bits(), q.bits(), got)
			}
		}
	}
	if got := Or(of(1, 5).bits(), of(5, 9).bits()); got != of(1, 5, 9).bits() {
		t.Error(got)
	}
}

// P4.1: the blocks below blocks are counted, and no other.
func TestCount(t *testing.T) {
	for _, p := range samples() {
		for blocks := range api.MaxBlocks + 1 {
			if got := Count(p.bits(), blocks); got != p.count(blocks) {
				t.Errorf("Count(%v, %d): %d", p.bits(), blocks, got)
			}
		}
	}
}

// P4.1: of no blocks or fewer none is used; of more than MaxBlocks those are counted that are.
func TestCountBeyondTheBlocks(t *testing.T) {
	for _, p := range samples() {
		for _, blocks := range noBlocks() {
			want := p.count(api.MaxBlocks)
			if blocks < 0 {
				want = 0
			}
			if got := Count(p.bits(), blocks); got != want {
				t.Errorf("Count(%v, %d): %d, not %d", p.bits(), blocks, got, want)
			}
		}
	}
}

// P4.2: the chapter's example, and its neighbours.
func TestRunExample(t *testing.T) {
	p := of(0, 1, 3)
	runIs(t, p, 16, 2, 4, api.OK)
	runIs(t, p, 16, 1, 2, api.OK)
	runIs(t, p, 16, 12, 4, api.OK)
	runIs(t, p, 16, 13, 0, api.ErrFull)
	runIs(t, p, 3, 1, 2, api.OK)
	runIs(t, p, 3, 2, 0, api.ErrFull)
	runIs(t, p, 2, 1, 0, api.ErrFull)
}

// P4.2: all bitmaps, all numbers of blocks, all lengths.
func TestRunOfEveryLength(t *testing.T) {
	for _, p := range samples() {
		for blocks := 1; blocks <= api.MaxBlocks; blocks++ {
			for n := 1; n <= blocks+1; n++ {
				if want := p.run(blocks, n); want < 0 {
					runIs(t, p, blocks, n, 0, api.ErrFull)
				} else {
					runIs(t, p, blocks, n, want, api.OK)
				}
			}
		}
	}
}

// P4.2: the edges: a run of all blocks, of the first one, of the last one; one that would need a block that is none.
func TestRunAtTheEdges(t *testing.T) {
	runIs(t, plain{}, 128, 128, 0, api.OK)
	runIs(t, plain{}, 128, 129, 0, api.ErrFull)
	runIs(t, plain{}, 1, 1, 0, api.OK)
	runIs(t, plain{}, 1, 2, 0, api.ErrFull)
	runIs(t, all(), 128, 1, 0, api.ErrFull)
	runIs(t, all(), 1, 1, 0, api.ErrFull)
	runIs(t, but(0), 128, 1, 0, api.OK)
	runIs(t, but(127), 128, 1, 127, api.OK)
	runIs(t, but(127), 128, 2, 0, api.ErrFull)
	runIs(t, but(127), 127, 1, 0, api.ErrFull)
	runIs(t, but(125, 126, 127), 128, 3, 125, api.OK)
	runIs(t, but(125, 126, 127), 127, 3, 0, api.ErrFull)
	runIs(t, but(10, 12, 13, 20, 21), 128, 2, 12, api.OK)
	for _, n := range []int{130, 1 << 32, 1 << 62, math.MaxInt - 127, math.MaxInt - 1, math.MaxInt} {
		runIs(t, plain{}, 128, n, 0, api.ErrFull)
		runIs(t, of(0, 1, 3), 16, n, 0, api.ErrFull)
	}
}

// P4.2: no blocks or fewer to look for, and disks of no blocks or of too many, are ErrArg; so they are, too, where there is no run.
func TestRunRefusesWhatIsNoRun(t *testing.T) {
	for _, p := range []plain{{}, all(), of(0, 127), mixed(3, 2)} {
		for _, n := range []int{0, -1, -128, -1 << 32, math.MinInt + 1, math.MinInt} {
			for _, blocks := range []int{1, 16, 127, 128, 0, 129} {
				runIs(t, p, blocks, n, 0, api.ErrArg)
			}
		}
		for _, blocks := range []int{0, -1, -16, -128, -1 << 32, math.MinInt, 129, 256, 1 << 32, 1<<32 + 16, math.MaxInt} {
			for _, n := range []int{1, 2, 128, 129, math.MaxInt} {
				runIs(t, p, blocks, n, 0, api.ErrArg)
			}
		}
	}
}

// P4.3: With takes what Run tells, as often as Run tells one.
func TestWithTakesWhatRunTells(t *testing.T) {
	for _, p := range samples() {
		for _, blocks := range []int{1, 8, 16, 17, 100, 127, 128} {
			for n := 1; n <= blocks; n++ {
				if fault := fill(p.bits(), blocks, n); fault != "" {
					t.Errorf("of %v, %d blocks, runs of %d: %s", p.bits(), blocks, n, fault)
				}
			}
		}
	}
}

// fill takes run by run till there is none; it tells the first fault.
func fill(m api.Bitmap, blocks, n int) string {
	for {
		from, e := Run(m, blocks, n)
		if e == api.ErrFull {
			return ""
		}
		if e != api.OK {
			return fmt.Sprint("Run: ", e)
		}
		next, e := With(m, from, n)
		if e != api.OK {
			return fmt.Sprint("With from ", from, ": ", e)
		}
		if Count(next, blocks) != Count(m, blocks)+n || Or(m, next) != next {
			return fmt.Sprint("With from ", from, ": ", next)
		}
		m = next
	}
}

// runs stops where the one that ranges over it stops: Run does, at the first run that is long enough.
func TestRunsStopWhenAsked(t *testing.T) {
	p := but(2, 5, 6, 100, 127)
	var got [][2]int
	for from, free := range runs(p.bits(), 128) {
		got = append(got, [2]int{from, free})
		if from == 5 {
			break
		}
	}
	if fmt.Sprint(got) != "[[2 1] [5 2]]" {
		t.Error(got)
	}
	got = nil
	for from, free := range runs(p.bits(), 128) {
		got = append(got, [2]int{from, free})
	}
	if fmt.Sprint(got) != "[[2 1] [5 2] [100 1] [127 1]]" {
		t.Error(got)
	}
}
