package super

import (
	"crypto/sha256"
	"fmt"
	"math"
	"slices"
	"testing"

	"codex/api"
)

// digest has no byte that is zero, so that a byte that is lost or moved shows.
func digest(n byte) api.Digest {
	d := api.Digest(sha256.Sum256([]byte{n}))
	for i := range d {
		d[i] |= 1
	}
	return d
}

// bitmap0 is a bitmap of these blocks.
func bitmap0(l ...int) api.Bitmap {
	var m api.Bitmap
	for _, b := range l {
		m[b/8] |= 1 << (b % 8)
	}
	return m
}

// upTo is the blocks from 0 up to n less 1, of which none is missing.
func upTo(n int) api.Bitmap {
	var m api.Bitmap
	for b := range n {
		m[b/8] |= 1 << (b % 8)
	}
	return m
}

// plain is a superblock that may be, if its Gen and its Blocks may; those of Gens near each other differ in Root, Log and Used, too.
func plain(gen uint32, blocks int) api.Super {
	root := 2 + int(gen%uint32(blocks-2))
	return api.Super{Gen: gen, Blocks: blocks, Root: root, Log: digest(byte(gen)), Used: bitmap0(0, 1, root, min(blocks-1, 127))}
}

// text is a superblock's bytes up to the check by the chapter's words alone, whether it may be or not.
func text(s api.Super) []byte {
	gen := uint64(s.Gen)
	head := []byte{0x53, byte(gen / (1 << 24)), byte(gen / (1 << 16) % 256), byte(gen / 256 % 256), byte(gen % 256), byte(s.Blocks), byte(s.Root)}
	return slices.Concat(head, s.Log[:], s.Used[:])
}

// block is a text with its check behind it, by the library's SHA-256, and zeros.
func block(text []byte) api.Block {
	sum := sha256.Sum256(text)
	var b api.Block
	copy(b[:], slices.Concat(text, sum[:4]))
	return b
}

// mayBe holds all that is asked of a superblock that may be: its block byte by byte, and itself out of it.
func mayBe(t *testing.T, s api.Super) {
	t.Helper()
	if !Good(s) {
		t.Errorf("Good(%v): false", s)
	}
	b, e := Encode(s)
	if e != api.OK || b != block(text(s)) {
		t.Errorf("Encode(%v): %x, %d", s, b, e)
	}
	if got, e := Decode(b); e != api.OK || got != s {
		t.Errorf("Decode of Encode(%v): %v, %d", s, got, e)
	}
}

// mayNotBe holds all that is asked of one that may not be; told is whether its numbers fit into a block, so that it can be found in one whose check is right.
func mayNotBe(t *testing.T, s api.Super, told bool) {
	t.Helper()
	if Good(s) {
		t.Errorf("Good(%v): true", s)
	}
	if b, e := Encode(s); e != api.ErrForm || b != (api.Block{}) {
		t.Errorf("Encode(%v): %x, %d", s, b, e)
	}
	if told {
		noSuper(t, fmt.Sprint(s, ", the check right"), block(text(s)))
	}
}

func noSuper(t *testing.T, name string, b api.Block) {
	t.Helper()
	if s, e := Decode(b); e != api.ErrForm || s != (api.Super{}) {
		t.Errorf("Decode of %s: %v, %d", name, s, e)
	}
}

func fitsByte(n int) bool { return n >= 0 && n <= 255 }

// P7.1: a superblock written out by hand: where each byte stands, what the check is of, where the zeros begin.
func TestSuperByHand(t *testing.T) {
	s := api.Super{Gen: 0x1a2b3c4d, Blocks: 100, Root: 77, Log: api.Digest{0: 0x11, 31: 0x99}, Used: api.Bitmap{0: 0x83, 12: 0x0e}}
	b, e := Encode(s)
	var want api.Block
	want[0], want[1], want[2], want[3], want[4], want[5], want[6] = 0x53, 0x1a, 0x2b, 0x3c, 0x4d, 100, 77
	want[7], want[38], want[39], want[51] = 0x11, 0x99, 0x83, 0x0e
	sum := sha256.Sum256(want[:55])
	copy(want[55:59], sum[:4])
	if e != api.OK || b != want {
		t.Errorf("%x, %d; want %x", b, e, want)
	}
	if got, e := Decode(want); e != api.OK || got != s {
		t.Errorf("%v, %d", got, e)
	}
}

// P7.1: Gens at the edges, those of each byte's edge, and beyond the greatest.
func TestEveryKindOfGen(t *testing.T) {
	for _, gen := range []uint32{1, 2, 3, 255, 256, 257, 65535, 65536, 1<<24 - 1, 1 << 24, 0x01020304, 1<<29 - 1, 1 << 29, 1<<30 - 2, 1<<30 - 1} {
		mayBe(t, plain(gen, 20))
	}
	for _, gen := range []uint32{0, 1 << 30, 1<<30 + 1, 1<<31 - 1, 1 << 31, 1<<31 + 5, 3 << 30, math.MaxUint32} {
		mayNotBe(t, plain(gen, 20), true)
	}
	for bit := range 32 {
		s := plain(1, 20)
		if s.Gen = 1 << bit; bit < 30 {
			mayBe(t, s)
		} else {
			mayNotBe(t, s, true)
		}
	}
}

// P7.1: every Blocks, none but blocks 0 and 1 used; those beyond all limits.
func TestEveryBlocks(t *testing.T) {
	for n := -300; n <= 600; n++ {
		s := api.Super{Gen: 7, Blocks: n, Used: bitmap0(0, 1)}
		if n >= 16 && n <= 128 {
			mayBe(t, s)
		} else {
			mayNotBe(t, s, fitsByte(n))
		}
	}
	for _, n := range []int{math.MinInt, math.MinInt + 20, -1 << 32, 1<<16 + 20, 1<<32 + 20, math.MaxInt} {
		mayNotBe(t, api.Super{Gen: 7, Blocks: n, Used: bitmap0(0, 1)}, false)
	}
}

// P7.1: every Root of every number of Blocks; whether it is used is not asked.
func TestEveryRoot(t *testing.T) {
	for blocks := 16; blocks <= 128; blocks++ {
		for root := -4; root < 260; root++ {
			s := api.Super{Gen: 9, Blocks: blocks, Root: root, Log: digest(1), Used: bitmap0(0, 1)}
			if root == 0 || root >= 2 && root < blocks {
				mayBe(t, s)
			} else {
				mayNotBe(t, s, fitsByte(root))
			}
		}
	}
	for _, root := range []int{math.MinInt, -256, -254, 256, 258, 1<<16 + 3, 1 << 32, 1<<32 + 3, math.MaxInt} {
		s := plain(9, 128)
		s.Root = root
		mayNotBe(t, s, false)
	}
}

// P7.1: every block used alone, or alone not used, of every number of Blocks.
func TestEveryUsedBlock(t *testing.T) {
	for blocks := 16; blocks <= 128; blocks++ {
		s := api.Super{Gen: 9, Blocks: blocks, Root: 3, Log: digest(1)}
		for b := range 128 {
			s.Used = bitmap0(0, 1, b)
			holdsUsed(t, s, b < blocks)
			s.Used = upTo(blocks)
			s.Used[b/8] |= 1 << (b % 8)
			holdsUsed(t, s, b < blocks)
			s.Used[b/8] ^= 1 << (b % 8)
			holdsUsed(t, s, b >= 2)
		}
		for _, m := range []api.Bitmap{{}, bitmap0(0), bitmap0(1), bitmap0(2, 3), bitmap0(0, 2, 15), bitmap0(1, 2, 15)} {
			s.Used = m
			holdsUsed(t, s, false)
		}
		s.Used = upTo(128)
		holdsUsed(t, s, blocks == 128)
	}
}

func holdsUsed(t *testing.T, s api.Super, good bool) {
	t.Helper()
	if good {
		mayBe(t, s)
	} else {
		mayNotBe(t, s, true)
	}
}

// P7.1: blocks 0 or 1 free and a block beyond the disk used: as many as could be, yet not those.
func TestUsedIsNotCounted(t *testing.T) {
	for _, m := range []api.Bitmap{bitmap0(0, 20), bitmap0(1, 20), bitmap0(20, 21), bitmap0(0, 127), bitmap0(126, 127), bitmap0(1, 2, 3, 20)} {
		mayNotBe(t, api.Super{Gen: 9, Blocks: 20, Used: m}, true)
	}
}

// P7.1: any Log may be.
func TestLogs(t *testing.T) {
	s := plain(5, 128)
	for i := range s.Log {
		s.Log = api.Digest{}
		s.Log[i] = 1
		mayBe(t, s)
	}
	for i := range s.Log {
		s.Log[i] = 255
	}
	mayBe(t, s)
	s.Log = api.Digest{}
	mayBe(t, s)
}

// P7.1: superblocks of numbers by a plain rule.
func TestDecodeOfEncode(t *testing.T) {
	x := uint32(1)
	next := func(n int) int {
		x = x*1664525 + 1013904223
		return int(x>>8) % n
	}
	for range 3000 {
		blocks := 16 + next(113)
		s := api.Super{Gen: 1 + uint32(next(1<<23))*uint32(1+next(127)), Blocks: blocks, Log: digest(byte(next(256)))}
		if next(4) > 0 {
			s.Root = 2 + next(blocks-2)
		}
		used := []int{0, 1}
		for range next(60) {
			used = append(used, next(blocks))
		}
		s.Used = bitmap0(used...)
		mayBe(t, s)
	}
}

// some is superblocks that may be, of which those blocks are.
func some() []api.Super {
	return []api.Super{plain(1, 16), plain(0x01020304, 100), plain(1<<30-1, 128), {Gen: 2, Blocks: 20, Used: bitmap0(0, 1)}, {Gen: 3, Blocks: 128, Root: 127, Used: upTo(128)}}
}

// P7.1: no bit of a superblock may be another one: of the first byte, the numbers, the check, the zeros; nor any byte.
func TestEveryBitTurned(t *testing.T) {
	for k, s := range some() {
		whole := block(text(s))
		for i := range api.Size {
			for x := 1; x < 256; x++ {
				b := whole
				b[i] ^= byte(x)
				noSuper(t, fmt.Sprint("superblock ", k, " with byte ", i, " another by ", x), b)
			}
		}
	}
}

// P7.1: first bytes that are others, the check right; what is no superblock at all.
func TestEveryFirstByte(t *testing.T) {
	for _, s := range some() {
		for first := range 256 {
			l := text(s)
			if l[0] = byte(first); first != 0x53 {
				noSuper(t, fmt.Sprint("first byte ", first), block(l))
			}
		}
	}
	var ones api.Block
	for i := range ones {
		ones[i] = 255
	}
	for _, b := range []api.Block{{}, ones, {0x53}, block(nil), block([]byte{0x53}), block(make([]byte, 55)), block(ones[:55])} {
		noSuper(t, "nothing", b)
	}
}

// with is b with other bytes from i on.
func with(b api.Block, i int, l ...byte) api.Block {
	copy(b[i:], l)
	return b
}

// P7.1: checks of something else, or that stand elsewhere; something else than zeros behind a check.
func TestOtherChecks(t *testing.T) {
	of := func(b []byte) []byte { s := sha256.Sum256(b); return s[:4] }
	for _, s := range some() {
		l := text(s)
		n, whole := len(l), block(l)
		sum := sha256.Sum256(l)
		back := slices.Clone(sum[:4])
		slices.Reverse(back)
		for name, b := range map[string]api.Block{
			"no check":                        with(whole, n, 0, 0, 0, 0),
			"the last four bytes":             with(whole, n, sum[28:]...),
			"the check turned about":          with(whole, n, back...),
			"the check without the mark":      with(whole, n, of(l[1:])...),
			"the check without the last byte": with(whole, n, of(l[:n-1])...),
			"the check of the block":          with(whole, n, of(slices.Concat(l, make([]byte, 128-n)))...),
			"the check one byte later":        with(with(whole, n, 0), n+1, sum[:4]...),
			"the check at the block's end":    with(with(whole, n, 0, 0, 0, 0), 124, sum[:4]...),
			"a longer check":                  with(whole, n, sum[:5]...),
			"something at the end":            with(whole, 127, 1),
			"something behind the check":      with(whole, n+4, 1),
			"one byte in front":               api.Block(slices.Concat([]byte{0}, whole[:127])),
			"the first byte gone":             api.Block(slices.Concat(whole[1:], []byte{0})),
		} {
			noSuper(t, name, b)
		}
	}
}

// P7.1: numbers whose lowest byte comes first, the check right: another Gen, or none.
func TestGenTurnedAbout(t *testing.T) {
	l := text(plain(0x01020304, 20))
	slices.Reverse(l[1:5])
	if s, e := Decode(block(l)); e != api.OK || s.Gen != 0x04030201 {
		t.Error(s, e)
	}
	l = text(plain(0x01020340, 20))
	slices.Reverse(l[1:5])
	noSuper(t, "a Gen too great", block(l))
}
