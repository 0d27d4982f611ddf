package leaf

import (
	"crypto/sha256"
	"fmt"
	"math"
	"slices"
	"testing"

	"codex/api"
)

// key is a digest none of whose bytes is zero, so that a byte that is lost or moved shows; by their first byte they rise.
func key(first byte) api.Digest {
	d := api.Digest(sha256.Sum256([]byte{first}))
	for i := range d {
		d[i] |= 1
	}
	d[0] = first
	return d
}

func entry(first byte, place, blocks, refs int) api.Entry {
	return api.Entry{Key: key(first), Place: place, Blocks: blocks, Refs: refs}
}

// block is a text with its check behind it, by the library's SHA-256, and zeros.
func block(text []byte) api.Block {
	sum := sha256.Sum256(text)
	var b api.Block
	copy(b[:], slices.Concat(text, sum[:4]))
	return b
}

// leafText is a leaf's bytes up to the check by the chapter's words alone, whether the entries may be or not.
func leafText(l ...api.Entry) []byte {
	text := []byte{0x4c, byte(len(l))}
	for _, e := range l {
		text = slices.Concat(text, e.Key[:], []byte{byte(e.Place), byte(e.Blocks), byte(e.Refs / 256), byte(e.Refs % 256)})
	}
	return text
}

// rootText is likewise a root's.
func rootText(l ...int) []byte {
	text := []byte{0x52, byte(len(l))}
	for _, place := range l {
		text = append(text, byte(place))
	}
	return text
}

// places is n places from from on, one behind the other.
func places(from, n int) []int {
	var l []int
	for i := range n {
		l = append(l, from+i)
	}
	return l
}

// mayBe holds all that is asked of entries that may be: their leaf byte by byte, and themselves out of it.
func mayBe(t *testing.T, l ...api.Entry) {
	t.Helper()
	if !Good(l) {
		t.Errorf("Good(%v): false", l)
	}
	b, e := Encode(l)
	if e != api.OK || b != block(leafText(l...)) {
		t.Errorf("Encode(%v): %x, %d", l, b, e)
	}
	if got, e := Decode(b); e != api.OK || !slices.Equal(got, l) {
		t.Errorf("Decode of Encode(%v): %v, %d", l, got, e)
	}
}

func mayNotBe(t *testing.T, name string, l ...api.Entry) {
	t.Helper()
	if Good(l) {
		t.Errorf("Good of %s: true", name)
	}
	if b, e := Encode(l); e != api.ErrForm || b != (api.Block{}) {
		t.Errorf("Encode of %s: %x, %d", name, b, e)
	}
}

func noLeaf(t *testing.T, name string, b api.Block) {
	t.Helper()
	if l, e := Decode(b); e != api.ErrForm || len(l) != 0 {
		t.Errorf("Decode of %s: %v, %d", name, l, e)
	}
}

// isRoot holds all that is asked of places that a root may have.
func isRoot(t *testing.T, l ...int) {
	t.Helper()
	b, e := Root(l)
	if e != api.OK || b != block(rootText(l...)) {
		t.Errorf("Root(%v): %x, %d", l, b, e)
	}
	if got, e := Leaves(b); e != api.OK || !slices.Equal(got, l) {
		t.Errorf("Leaves of Root(%v): %v, %d", l, got, e)
	}
}

func noPlaces(t *testing.T, name string, l ...int) {
	t.Helper()
	if b, e := Root(l); e != api.ErrForm || b != (api.Block{}) {
		t.Errorf("Root of %s: %x, %d", name, b, e)
	}
}

func noRoot(t *testing.T, name string, b api.Block) {
	t.Helper()
	if l, e := Leaves(b); e != api.ErrForm || len(l) != 0 {
		t.Errorf("Leaves of %s: %v, %d", name, l, e)
	}
}

// P5.1: a leaf written out by hand: where each byte stands, what the check is of, where the zeros begin.
func TestLeafByHand(t *testing.T) {
	d := api.Digest{0: 0x11, 31: 0x99}
	b, e := Encode([]api.Entry{{Key: d, Place: 120, Blocks: 8, Refs: 0x0102}})
	var want api.Block
	want[0], want[1], want[2], want[33], want[34], want[35], want[36], want[37] = 0x4c, 1, 0x11, 0x99, 120, 8, 1, 2
	sum := sha256.Sum256(want[:38])
	copy(want[38:42], sum[:4])
	if e != api.OK || b != want {
		t.Errorf("%x, %d; want %x", b, e, want)
	}
}

// P5.1, P5.2: one, two and three entries, their numbers at the edges, Keys of zeros and of all bits.
func TestEntriesThatMayBe(t *testing.T) {
	mayBe(t, entry(1, 2, 1, 0))
	mayBe(t, entry(1, 2, 1, 0), entry(2, 127, 1, 1000))
	mayBe(t, entry(1, 2, 8, 1), entry(128, 127, 1, 1000), entry(255, 120, 8, 258))
	mayBe(t, api.Entry{Place: 2, Blocks: 1})
	var ones api.Digest
	for i := range ones {
		ones[i] = 255
	}
	mayBe(t, api.Entry{Place: 64, Blocks: 3, Refs: 255}, entry(77, 5, 2, 256), api.Entry{Key: ones, Place: 127, Blocks: 1, Refs: 1000})
}

// P5.1, P5.2: every Place with every Blocks: those that reach up to MaxBlocks at most, at each place of a leaf.
func TestEveryPlaceAndBlocks(t *testing.T) {
	for place := -3; place <= 131; place++ {
		for blocks := -2; blocks <= 130; blocks++ {
			x := entry(5, place, blocks, 7)
			good := place >= 2 && place <= 127 && blocks >= 1 && blocks <= 8 && place+blocks <= 128
			for _, l := range [][]api.Entry{{x}, {x, entry(9, 4, 4, 4)}, {entry(1, 3, 3, 3), x}, {entry(1, 3, 3, 3), entry(2, 2, 2, 2), x}} {
				if good {
					mayBe(t, l...)
				} else {
					mayNotBe(t, fmt.Sprint("Place ", place, ", Blocks ", blocks), l...)
				}
			}
		}
	}
}

// P5.1, P5.2: every Refs, and those one below and one beyond.
func TestEveryRefs(t *testing.T) {
	for refs := 0; refs <= 1000; refs++ {
		mayBe(t, entry(5, 60, 2, refs), entry(6, 60, 2, 1000-refs))
	}
	for _, refs := range []int{-1, -2, -256, 1001, 1002, 1024, 65535, 65536, 65537, 66536} {
		mayNotBe(t, fmt.Sprint("Refs ", refs), entry(5, 60, 2, refs))
		mayNotBe(t, fmt.Sprint("Refs ", refs, " behind"), entry(4, 60, 2, 1), entry(5, 60, 2, refs))
	}
}

// P5.1: very great numbers and numbers far below 0, those among them that a byte or two cut down to what may be, and those whose sum goes round.
func TestNumbersFarOff(t *testing.T) {
	for _, n := range []int{math.MinInt, math.MinInt + 2, math.MinInt + 128, -1 << 32, -65536 + 5, -256 + 5, -251, -128,
		256 + 5, 65536 + 5, 1 << 31, 1<<32 + 5, 1 << 62, math.MaxInt - 127, math.MaxInt - 5, math.MaxInt - 1, math.MaxInt} {
		mayNotBe(t, fmt.Sprint("Place ", n), entry(1, n, 1, 0))
		mayNotBe(t, fmt.Sprint("Place ", n, ", Blocks 8"), entry(1, n, 8, 0))
		mayNotBe(t, fmt.Sprint("Blocks ", n), entry(1, 5, n, 0))
		mayNotBe(t, fmt.Sprint("Blocks ", n, " from 127 on"), entry(1, 127, n, 0))
		mayNotBe(t, fmt.Sprint("Place and Blocks ", n), entry(1, n, n, 0))
		mayNotBe(t, fmt.Sprint("Place ", n, ", its Blocks against it"), entry(1, n, -n, 0))
		noPlaces(t, fmt.Sprint("place ", n), n)
		noPlaces(t, fmt.Sprint("place ", n, " behind"), 2, n)
		if n < 0 || n > 1000 {
			mayNotBe(t, fmt.Sprint("Refs ", n), entry(1, 5, 1, n))
		}
	}
}

// P5.1: no entries, one more than LeafLen, very many.
func TestHowManyEntries(t *testing.T) {
	mayNotBe(t, "nil")
	mayNotBe(t, "no entries", []api.Entry{}...)
	var l []api.Entry
	for i := range 255 {
		l = append(l, entry(byte(i+1), 2+i%120, 1, i))
	}
	for n := range 256 {
		if n >= 1 && n <= api.LeafLen {
			mayBe(t, l[:n]...)
		} else {
			mayNotBe(t, fmt.Sprint(n, " entries"), l[:n]...)
		}
	}
	mayNotBe(t, "256 + 1 entries", append(slices.Clone(l), make([]api.Entry, 2)...)...)
	mayNotBe(t, "70000 entries", make([]api.Entry, 70000)...)
}

// P5.1: Keys rise by the first byte that differs, be it the last one.
func TestKeysRise(t *testing.T) {
	for i := range api.Hash {
		a, b, c := entry(7, 5, 1, 1), entry(7, 5, 1, 1), entry(7, 5, 1, 1)
		a.Key[i], b.Key[i], c.Key[i] = 1, 127, 128
		for k := i + 1; k < api.Hash; k++ {
			a.Key[k], b.Key[k], c.Key[k] = 255, 100, 0
		}
		mayBe(t, a, b)
		mayBe(t, b, c)
		mayBe(t, a, b, c)
		for _, l := range [][]api.Entry{{a, a}, {b, a}, {c, b}, {a, a, b}, {a, b, b}, {a, c, b}, {b, a, c}, {b, c, a}, {c, b, a}, {c, a, b}, {a, b, a}, {a, a, a}} {
			mayNotBe(t, fmt.Sprint("Keys that don't rise at byte ", i), l...)
			noLeaf(t, fmt.Sprint("Keys that don't rise at byte ", i), block(leafText(l...)))
		}
	}
	// What else stands in an entry says nothing of the order.
	a, b := entry(1, 100, 8, 1000), entry(2, 2, 1, 0)
	mayBe(t, a, b)
	mayNotBe(t, "Keys that fall while the numbers rise", b, a)
	b.Key = a.Key
	mayNotBe(t, "Keys alike, all else another", b, a)
}

// P5.1: entries of one leaf may have blocks in common: that is asked of an index alone.
func TestBlocksInCommon(t *testing.T) {
	mayBe(t, entry(1, 5, 3, 0), entry(2, 5, 3, 0))
	mayBe(t, entry(1, 5, 3, 0), entry(2, 6, 1, 0), entry(3, 2, 8, 9))
}

// leavesAndRoots are blocks that are leaves and roots, of few and of many.
func leavesAndRoots() (leaves, roots []api.Block) {
	l := []api.Entry{entry(1, 2, 1, 0), entry(5, 127, 1, 1000), entry(9, 120, 8, 258)}
	for n := 1; n <= len(l); n++ {
		leaves = append(leaves, block(leafText(l[:n]...)))
	}
	for _, p := range [][]int{{2}, {127}, {9, 2, 127}, places(2, 50), places(28, 100)} {
		roots = append(roots, block(rootText(p...)))
	}
	return leaves, roots
}

// P5.1: no bit of a leaf or of a root may be another one: of the first byte, the count, the entries or places, the check, the zeros.
func TestEveryBitTurned(t *testing.T) {
	leaves, roots := leavesAndRoots()
	for i := range api.Size {
		for bit := range 8 {
			for k, b := range leaves {
				b[i] ^= 1 << bit
				noLeaf(t, fmt.Sprint("leaf ", k, " with bit ", bit, " of byte ", i, " turned"), b)
			}
			for k, b := range roots {
				b[i] ^= 1 << bit
				noRoot(t, fmt.Sprint("root ", k, " with bit ", bit, " of byte ", i, " turned"), b)
			}
		}
	}
}

// P5.1: a leaf is no root and a root no leaf; zeros and all bits are neither.
func TestLeafIsNoRoot(t *testing.T) {
	leaves, roots := leavesAndRoots()
	for _, b := range leaves {
		noRoot(t, "a leaf", b)
	}
	for _, b := range roots {
		noLeaf(t, "a root", b)
	}
	var ones api.Block
	for i := range ones {
		ones[i] = 255
	}
	for _, b := range []api.Block{{}, ones, block(nil), block([]byte{0x4c}), block([]byte{0x52})} {
		noLeaf(t, "neither", b)
		noRoot(t, "neither", b)
	}
}

// P5.1: first bytes that are others, the check right.
func TestEveryFirstByte(t *testing.T) {
	for first := range 256 {
		text := leafText(entry(1, 2, 1, 0), entry(2, 3, 1, 5))
		text[0] = byte(first)
		if first != 0x4c {
			noLeaf(t, fmt.Sprint("first byte ", first), block(text))
		}
		text = rootText(9, 2, 127)
		text[0] = byte(first)
		if first != 0x52 {
			noRoot(t, fmt.Sprint("first byte ", first), block(text))
		}
	}
}

// P5.1: counts that are others than those of the entries or places behind them, the check right: of what stands there, and of what the count says.
func TestEveryCount(t *testing.T) {
	l := []api.Entry{entry(1, 2, 1, 0), entry(2, 3, 1, 5), entry(3, 4, 1, 6)}
	for n := range 4 {
		for count := range 256 {
			if text := leafText(l[:n]...); count != n || n == 0 {
				text[1] = byte(count)
				noLeaf(t, fmt.Sprint(n, " entries, count ", count), block(text))
				long := slices.Concat(text, make([]byte, 256*36))[:min(max(2+36*count, len(text)), 124)]
				noLeaf(t, fmt.Sprint(n, " entries and zeros, count ", count), block(long))
			}
		}
	}
	for _, n := range []int{0, 1, 2, 99, 100, 101, 122} {
		for count := range 256 {
			if text := rootText(places(2, n)...); count != n || n == 0 || n > 100 {
				text[1] = byte(count)
				noRoot(t, fmt.Sprint(n, " leaves, count ", count), block(text))
				long := slices.Concat(text, make([]byte, 256))[:min(max(2+count, len(text)), 124)]
				noRoot(t, fmt.Sprint(n, " leaves and zeros, count ", count), block(long))
			}
		}
	}
}

// P5.1: a check that is right doesn't make a leaf of entries that may not be.
func TestRightCheckOfWrongEntries(t *testing.T) {
	ahead, behind := entry(1, 3, 3, 3), entry(9, 4, 4, 4)
	wrong := []api.Entry{entry(5, 0, 1, 0), entry(5, 1, 1, 0), entry(5, 128, 1, 0), entry(5, 129, 1, 0), entry(5, 255, 1, 0),
		entry(5, 127, 2, 0), entry(5, 121, 8, 0), entry(5, 126, 3, 0), entry(5, 255, 2, 0),
		entry(5, 5, 0, 0), entry(5, 5, 9, 0), entry(5, 5, 128, 0), entry(5, 5, 255, 0),
		entry(5, 5, 1, 1001), entry(5, 5, 1, 1024), entry(5, 5, 1, 32768), entry(5, 5, 1, 65535)}
	for _, x := range wrong {
		for _, l := range [][]api.Entry{{x}, {ahead, x}, {x, behind}, {ahead, x, behind}} {
			noLeaf(t, fmt.Sprint("a wrong entry, the check right: ", l), block(leafText(l...)))
		}
	}
}

// P5.1: every Place, Blocks and two bytes of Refs out of a block whose check is right: just those that may be.
func TestDecodeOfEveryNumber(t *testing.T) {
	for a := range 256 {
		for b := range 256 {
			x := entry(5, a, b, 1)
			decodes(t, x, a >= 2 && a <= 127 && b >= 1 && b <= 8 && a+b <= 128)
			x = entry(5, 9, 1, a*256+b)
			decodes(t, x, a*256+b <= 1000)
		}
	}
}

func decodes(t *testing.T, x api.Entry, good bool) {
	t.Helper()
	l, e := Decode(block(leafText(x)))
	if good && (e != api.OK || len(l) != 1 || l[0] != x) || !good && (e != api.ErrForm || len(l) != 0) {
		t.Errorf("%v: %v, %d", x, l, e)
	}
}

// with is b with other bytes from i on.
func with(b api.Block, i int, l ...byte) api.Block {
	copy(b[i:], l)
	return b
}

// P5.1: checks of something else, or that stand elsewhere; something else than zeros behind a check.
func TestOtherChecks(t *testing.T) {
	for name, text := range map[string][]byte{
		"leaf": leafText(entry(1, 2, 1, 0), entry(2, 3, 1, 5)), "full leaf": leafText(entry(1, 2, 1, 0), entry(2, 3, 1, 5), entry(3, 9, 8, 7)),
		"root": rootText(9, 2, 127), "full root": rootText(places(2, 100)...),
	} {
		n := len(text)
		whole := block(text)
		sum := sha256.Sum256(text)
		of := func(b []byte) []byte { s := sha256.Sum256(b); return s[:4] }
		back := slices.Clone(sum[:4])
		slices.Reverse(back)
		for which, b := range map[string]api.Block{
			"no check":                     with(whole, n, 0, 0, 0, 0),
			"the last four bytes":          with(whole, n, sum[28:]...),
			"the check turned about":       with(whole, n, back...),
			"the check without the mark":   with(whole, n, of(text[1:])...),
			"the check without the count":  with(whole, n, of(slices.Concat(text[:1], text[2:]))...),
			"the check of the block":       with(whole, n, of(slices.Concat(text, make([]byte, 128-n)))...),
			"the check one byte later":     with(with(whole, n, 0), n+1, sum[:4]...),
			"the check at the block's end": with(with(whole, n, 0, 0, 0, 0), 124, sum[:4]...),
			"a longer check":               with(whole, n, sum[:5]...),
			"something at the end":         with(whole, 127, 1),
			"something behind the check":   with(whole, n+4, 1),
		} {
			noLeaf(t, name+": "+which, b)
			noRoot(t, name+": "+which, b)
		}
	}
}

// P5.1: a root written out by hand, its places in the order in which they are given.
func TestRootByHand(t *testing.T) {
	sum := sha256.Sum256([]byte{0x52, 3, 9, 2, 127})
	want := api.Block{0x52, 3, 9, 2, 127, sum[0], sum[1], sum[2], sum[3]}
	if b, e := Root([]int{9, 2, 127}); e != api.OK || b != want {
		t.Errorf("%x, %d; want %x", b, e, want)
	}
	isRoot(t, 9, 2, 127)
	isRoot(t, 127, 9, 2)
	isRoot(t, 2, 9, 127)
}

// P5.1: roots of each number of leaves, rising and falling; none and too many are none.
func TestHowManyLeaves(t *testing.T) {
	for n := 1; n <= 100; n++ {
		l := places(128-n, n)
		if n > 63 {
			l = places(2, n)
		}
		isRoot(t, l...)
		slices.Reverse(l)
		isRoot(t, l...)
	}
	noPlaces(t, "nil")
	noPlaces(t, "no leaves", []int{}...)
	for n := 101; n <= 126; n++ {
		noPlaces(t, fmt.Sprint(n, " leaves"), places(2, n)...)
		if n <= 122 {
			noRoot(t, fmt.Sprint(n, " leaves, the check right"), block(rootText(places(2, n)...)))
		}
	}
	noPlaces(t, "256 + 1 leaves", places(2, 257)...)
	noPlaces(t, "70000 leaves", make([]int, 70000)...)
}

// P5.1: every place, alone and behind others; out of a root whose check is right, too.
func TestEveryPlaceOfALeaf(t *testing.T) {
	for place := -3; place < 256; place++ {
		for _, l := range [][]int{{place}, {place, 50}, {50, place}, {50, 7, place}} {
			if place >= 2 && place <= 127 && !slices.Contains(l[:len(l)-1], l[len(l)-1]) {
				isRoot(t, l...)
				continue
			}
			noPlaces(t, fmt.Sprint(l), l...)
			if place >= 0 {
				noRoot(t, fmt.Sprint(l, ", the check right"), block(rootText(l...)))
			}
		}
	}
}

// P5.1: two places alike, wherever the two stand.
func TestPlacesAlike(t *testing.T) {
	for _, n := range []int{2, 3, 10, 100} {
		for i := range n {
			for k := range i {
				l := places(2, n)
				l[i] = l[k]
				noPlaces(t, fmt.Sprint("places ", k, " and ", i, " alike, of ", n), l...)
				noRoot(t, fmt.Sprint("places ", k, " and ", i, " alike, of ", n), block(rootText(l...)))
			}
		}
	}
}

// P5.2: leaves of numbers by a plain rule, of each length.
func TestDecodeOfEncode(t *testing.T) {
	x := uint32(1)
	next := func(n int) int {
		x = x*1664525 + 1013904223
		return int(x>>8) % n
	}
	for range 3000 {
		var l []api.Entry
		for i := range 1 + next(3) {
			place := 2 + next(126)
			e := entry(byte(80*i+next(80)), place, 1+next(min(8, 128-place)), next(1001))
			e.Key[1+next(31)] = byte(next(256))
			l = append(l, e)
		}
		mayBe(t, l...)
	}
}

// P5.1: what is handed in stays as it is, its spare room included.
func TestArgumentsStay(t *testing.T) {
	room := []api.Entry{entry(1, 2, 1, 0), entry(5, 127, 1, 1000), entry(9, 120, 8, 258), entry(3, 99, 99, 9999)}
	was := slices.Clone(room)
	for n := range 5 {
		Good(room[:n])
		Encode(room[:n])
		if !slices.Equal(room, was) {
			t.Fatalf("%d entries: changed", n)
		}
	}
	spare := append(places(2, 105), 7, 7, 7)
	old := slices.Clone(spare)
	for n := range len(spare) {
		Root(spare[:n])
		if !slices.Equal(spare, old) {
			t.Fatalf("%d places: changed", n)
		}
	}
}

// P5.1: no two answers share memory, their spare room neither.
func TestAnswersAreNew(t *testing.T) {
	l := []api.Entry{entry(1, 2, 1, 0), entry(5, 127, 1, 1000)}
	b, _ := Encode(l)
	first, _ := Decode(b)
	second, _ := Decode(b)
	clear(first[:cap(first)])
	if !slices.Equal(second, l) {
		t.Error("two lists of entries share memory")
	}
	r, _ := Root([]int{5, 9, 2})
	one, _ := Leaves(r)
	two, _ := Leaves(r)
	clear(one[:cap(one)])
	if !slices.Equal(two, []int{5, 9, 2}) {
		t.Error("two lists of places share memory")
	}
}

// The range-functions stop where the one that ranges over them stops.
func TestRangesStopWhenAsked(t *testing.T) {
	l := []api.Entry{entry(1, 2, 1, 0), entry(9, 127, 1, 1000), entry(5, 120, 8, 258)}
	var told []bool
	for e, rises := range inOrder(l) {
		told = append(told, rises)
		if e == l[1] {
			break
		}
	}
	for _, rises := range inOrder(l) {
		told = append(told, rises)
	}
	if !slices.Equal(told, []bool{true, true, true, true, false}) {
		t.Error(told)
	}
	var got []api.Entry
	for e := range entries(block(leafText(l...)), 3) {
		got = append(got, e)
		if e == l[1] {
			break
		}
	}
	if !slices.Equal(got, l[:2]) {
		t.Error(got)
	}
}
