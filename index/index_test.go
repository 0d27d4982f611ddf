package index

import (
	"crypto/sha256"
	"fmt"
	"math"
	"slices"
	"testing"

	"codex/api"
)

// mostEntries is as many as an index can have: each takes a block of those from 2 on.
const mostEntries = api.MaxBlocks - 2

// key is a digest that begins with n, from 0 to 65535, so that they rise by n; no byte behind that is zero.
func key(n int) api.Digest {
	d := api.Digest(sha256.Sum256([]byte{byte(n), byte(n >> 8)}))
	for i := range d {
		d[i] |= 1
	}
	d[0], d[1] = byte(n>>8), byte(n)
	return d
}

func entry(n, place, blocks int) api.Entry {
	return api.Entry{Key: key(n), Place: place, Blocks: blocks, Refs: n % 1001}
}

// many is n entries of even keys from 2 on, one block each; their places fall while the Keys rise, from the last block of all on.
func many(n int) []api.Entry {
	var l []api.Entry
	for i := range n {
		l = append(l, entry(2*i+2, 127-i, 1))
	}
	return l
}

// places is n places from from on, one behind the other.
func places(from, n int) []int {
	var l []int
	for i := range n {
		l = append(l, from+i)
	}
	return l
}

// sealed is a text with its check behind it, by the library's SHA-256, and zeros.
func sealed(text []byte) api.Block {
	sum := sha256.Sum256(text)
	var b api.Block
	copy(b[:], slices.Concat(text, sum[:4]))
	return b
}

// leafOf is a leaf by the words of chapter 5, whether the entries may be or not.
func leafOf(l ...api.Entry) api.Block {
	text := []byte{0x4c, byte(len(l))}
	for _, e := range l {
		text = slices.Concat(text, e.Key[:], []byte{byte(e.Place), byte(e.Blocks), byte(e.Refs / 256), byte(e.Refs % 256)})
	}
	return sealed(text)
}

// leavesOf is the leaves of many entries, each full but the last one, whether they are an index or not.
func leavesOf(l ...api.Entry) []api.Block {
	var blocks []api.Block
	for i := 0; i < len(l); i += 3 {
		blocks = append(blocks, leafOf(l[i:min(i+3, len(l))]...))
	}
	return blocks
}

func rootOf(l ...int) api.Block {
	text := []byte{0x52, byte(len(l))}
	for _, place := range l {
		text = append(text, byte(place))
	}
	return sealed(text)
}

// isIndex holds all that is asked of entries that are an index: their blocks byte by byte, and themselves out of the leaves.
func isIndex(t *testing.T, l ...api.Entry) {
	t.Helper()
	if !Good(l) {
		t.Errorf("Good(%v): false", l)
	}
	leaves := leavesOf(l...)
	if got, e := Unpack(leaves); e != api.OK || !slices.Equal(got, l) {
		t.Errorf("Unpack of the leaves of %v: %v, %d", l, got, e)
	}
	at := places(70, Size(len(l)))
	slices.Reverse(at)
	b, e := Pack(l, at)
	want := leaves
	if len(l) > 0 {
		want = append(want, rootOf(at[:len(leaves)]...))
	}
	if e != api.OK || !slices.Equal(b, want) {
		t.Errorf("Pack(%v, %v): %x, %d", l, at, b, e)
	}
}

// noIndex holds that entries are none: of themselves, with places enough, and out of leaves whose checks are right.
func noIndex(t *testing.T, name string, l ...api.Entry) {
	t.Helper()
	if Good(l) {
		t.Errorf("Good of %s: true", name)
	}
	noPack(t, name, l, places(2, Size(len(l))), api.ErrForm)
	noUnpack(t, name, leavesOf(l...)...)
}

func noPack(t *testing.T, name string, l []api.Entry, at []int, want api.Errno) {
	t.Helper()
	if b, e := Pack(l, at); e != want || len(b) != 0 {
		t.Errorf("Pack of %s: %d blocks, %d, not %d", name, len(b), e, want)
	}
}

func noUnpack(t *testing.T, name string, leaves ...api.Block) {
	t.Helper()
	if l, e := Unpack(leaves); e != api.ErrForm || len(l) != 0 {
		t.Errorf("Unpack of %s: %v, %d", name, l, e)
	}
}

// P6.1: the chapter's example, no entries and below, each size up to a root's leaves and beyond, the greatest number of all.
func TestSize(t *testing.T) {
	for n, want := range map[int]int{
		math.MinInt: 0, math.MinInt + 1: 0, -1 << 32: 0, -4: 0, -3: 0, -2: 0, -1: 0, 0: 0,
		1: 2, 2: 2, 3: 2, 4: 3, 5: 3, 6: 3, 7: 4, 125: 43, 126: 43, 127: 44, 299: 101, 300: 101, 301: 102,
		math.MaxInt - 2: (math.MaxInt-2)/3 + 2, math.MaxInt - 1: (math.MaxInt-1)/3 + 1, math.MaxInt: math.MaxInt/3 + 2,
	} {
		if got := Size(n); got != want {
			t.Errorf("Size(%d): %d, not %d", n, got, want)
		}
	}
	for n := 1; n < 1000; n++ {
		if got := Size(n); got != 1+len(leavesOf(make([]api.Entry, n)...)) {
			t.Errorf("Size(%d): %d", n, got)
		}
	}
}

// P6.1, P6.3: every number of entries that an index can have: none, leaves just full, one entry more and one fewer.
func TestEveryNumberOfEntries(t *testing.T) {
	for n := range mostEntries + 1 {
		isIndex(t, many(n)...)
	}
}

// P6.1: entries are more than an index can have, so some have a block in common: just one too many, as many as a root's leaves take, and more.
func TestMoreEntriesThanBlocks(t *testing.T) {
	for _, n := range []int{mostEntries + 1, mostEntries + 2, 297, 299, 300, 301, 303, 765, 768, 3000} {
		var l []api.Entry
		for i := range n {
			l = append(l, entry(i, 2+i%mostEntries, 1))
		}
		noIndex(t, fmt.Sprint(n, " entries"), l...)
		at := places(2, Size(n))
		noPack(t, fmt.Sprint(n, " entries, a place too few"), l, at[1:], api.ErrForm)
	}
}

// P6.1, P6.3: objects that stand just one behind the other, of every length, up to the last block of all; Keys rise with the places, and against them.
func TestObjectsSideBySide(t *testing.T) {
	isIndex(t, entry(1, 5, 3), entry(2, 8, 1))
	isIndex(t, entry(1, 8, 1), entry(2, 5, 3))
	for n := 1; n <= 8; n++ {
		var up, down []api.Entry
		for place := 128 - n; place >= 2; place -= n {
			down = append(down, entry(len(down), place, n))
		}
		for i := range down {
			up = append(up, entry(i, down[len(down)-1-i].Place, n))
		}
		isIndex(t, up...)
		isIndex(t, down...)
	}
	isIndex(t, entry(1, 2, 8), entry(2, 10, 1), entry(3, 11, 7), entry(4, 119, 1), entry(5, 120, 8), entry(6, 18, 8))
}

// P6.1: every two objects of every length near each other: an index, unless they have a block in common; neighbours in the list, with one between them, and with many.
func TestBlocksInCommon(t *testing.T) {
	others := many(20)
	for a := 1; a <= 8; a++ {
		for b := 1; b <= 8; b++ {
			for place := 50 - b - 2; place <= 50+a+2; place++ {
				x, y := entry(1000, 50, a), entry(1001, place, b)
				first, last := entry(0, 50, a), entry(1002, place, b)
				for _, l := range [][]api.Entry{{x, y}, {first, others[0], y}, slices.Concat([]api.Entry{first}, others, []api.Entry{last})} {
					if place+b <= 50 || place >= 50+a {
						isIndex(t, l...)
					} else {
						noIndex(t, fmt.Sprint(a, " blocks from 50 on and ", b, " from ", place, " on, of ", len(l)), l...)
					}
				}
			}
		}
	}
}

// P6.1: two entries of one block, wherever they stand in a full index.
func TestOneBlockTwice(t *testing.T) {
	for i := range mostEntries {
		for _, k := range []int{0, 1, 2, 3, 60, 124, 125} {
			if i != k {
				l := many(mostEntries)
				l[i].Place = l[k].Place
				noIndex(t, fmt.Sprint("entries ", i, " and ", k, " at one place"), l...)
			}
		}
	}
}

// P6.1: Keys that are alike, or fall, at each place of a list, by the first byte or by the last one; within a leaf and from leaf to leaf.
func TestKeysRise(t *testing.T) {
	for n := 2; n <= 10; n++ {
		for i := 1; i < n; i++ {
			l := many(n)
			l[i].Key = l[i-1].Key
			noIndex(t, fmt.Sprint(n, " entries, Keys ", i-1, " and ", i, " alike"), l...)
			l[i].Key[api.Hash-1]++
			isIndex(t, l...)
			l[i].Key[api.Hash-1] -= 2
			noIndex(t, fmt.Sprint(n, " entries, Key ", i, " less by its last byte"), l...)
			l = many(n)
			l[i-1].Key, l[i].Key = l[i].Key, l[i-1].Key
			noIndex(t, fmt.Sprint(n, " entries, Keys ", i-1, " and ", i, " the other way round"), l...)
		}
		l := many(n)
		slices.Reverse(l)
		noIndex(t, fmt.Sprint(n, " entries turned about"), l...)
	}
	l := many(4)
	l[3].Key = l[0].Key
	noIndex(t, "the last Key as the first one", l...)
	isIndex(t, api.Entry{Place: 2, Blocks: 1}, api.Entry{Key: api.Digest{31: 1}, Place: 3, Blocks: 1}, api.Entry{Key: api.Digest{0: 255}, Place: 4, Blocks: 1})
}

// wrongEntries is entries that by themselves may not be, at Key n, in the room from 40 to 50 on or beyond it.
func wrongEntries(n int) []api.Entry {
	l := []api.Entry{entry(n, 0, 1), entry(n, 1, 1), entry(n, -1, 1), entry(n, 1, 2), entry(n, 128, 1), entry(n, 129, 1), entry(n, 255, 1), entry(n, 256+45, 1),
		entry(n, 127, 2), entry(n, 121, 8), entry(n, 45, 0), entry(n, 45, -1), entry(n, 45, 9), entry(n, 45, 128), entry(n, 45, 256+1),
		entry(n, math.MinInt, 1), entry(n, math.MaxInt, 1), entry(n, math.MaxInt, 8), entry(n, 45, math.MinInt), entry(n, 45, math.MaxInt), entry(n, math.MinInt, math.MinInt), {Key: key(n)}}
	for _, refs := range []int{-1, 1001, 65536, 1 << 32, math.MinInt, math.MaxInt} {
		l = append(l, api.Entry{Key: key(n), Place: 45, Blocks: 1, Refs: refs})
	}
	return l
}

// P6.1: an entry that by itself may not be, ahead of others, among them and behind them, with places enough for all.
func TestWrongEntry(t *testing.T) {
	for _, n := range []int{1, 2, 3, 4, 7, 30} {
		for i := range n {
			for _, wrong := range wrongEntries(2*i + 2) {
				l := many(n)
				l[i] = wrong
				name := fmt.Sprint("entry ", i, " of ", n, ": Place ", wrong.Place, ", Blocks ", wrong.Blocks, ", Refs ", wrong.Refs)
				if Good(l) {
					t.Errorf("Good of %s: true", name)
				}
				noPack(t, name, l, places(60, Size(n)), api.ErrForm)
			}
		}
	}
}

// P6.1: leaves whose checks are right, of entries that may not be.
func TestLeavesOfWrongEntries(t *testing.T) {
	for _, wrong := range []api.Entry{entry(4, 0, 1), entry(4, 1, 1), entry(4, 128, 1), entry(4, 255, 1), entry(4, 127, 2), entry(4, 45, 0), entry(4, 45, 9), {Key: key(4), Place: 45, Blocks: 1, Refs: 1001}} {
		noUnpack(t, fmt.Sprint(wrong), leavesOf(wrong)...)
		l := many(6)
		l[1] = wrong
		noUnpack(t, fmt.Sprint(wrong, " among others"), leavesOf(l...)...)
	}
}

// P6.1: ErrArg, unless there are Size places: one too few, one too many, none, very many; of no entries some.
func TestHowManyPlaces(t *testing.T) {
	for _, n := range []int{0, 1, 2, 3, 4, 5, 6, 7, 125, 126} {
		for _, m := range []int{0, 1, 2, 3, 4, 5, 42, 43, 44, 100, 300, 100000} {
			if m != Size(n) {
				noPack(t, fmt.Sprint(n, " entries, ", m, " places"), many(n), places(2, m), api.ErrArg)
			}
		}
		noPack(t, fmt.Sprint(n, " entries, a place more"), many(n), places(2, Size(n)+1), api.ErrArg)
		noPack(t, fmt.Sprint(n, " entries, places that are none, one more"), many(n), make([]int, Size(n)+1), api.ErrArg)
	}
	if b, e := Pack(nil, []int{}); e != api.OK || len(b) != 0 {
		t.Error(b, e)
	}
	if b, e := Pack([]api.Entry{}, nil); e != api.OK || len(b) != 0 {
		t.Error(b, e)
	}
}

// P6.1: what is no index is ErrForm, be the places too few, too many or wrong.
func TestFormAheadOfPlaces(t *testing.T) {
	for _, l := range [][]api.Entry{{entry(1, 5, 3), entry(2, 7, 1)}, {entry(2, 5, 1), entry(1, 9, 1)}, {entry(1, 0, 1)}} {
		for _, at := range [][]int{nil, {}, {60}, {60, 61, 62}, {0, 0}, {1}, {60, 60, 60}} {
			noPack(t, fmt.Sprint(l, " at ", at), l, at, api.ErrForm)
		}
	}
}

// P6.1: places that a root does not take are its error: those of leaves that are no block, or that are the superblocks', or alike.
func TestPlacesThatTheRootRefuses(t *testing.T) {
	for _, n := range []int{1, 3, 4, 7, 126} {
		leaves := Size(n) - 1
		for i := range leaves {
			for _, wrong := range []int{math.MinInt, -1, 0, 1, 128, 129, 256 + 60, 1 << 32, 1<<32 + 60, math.MaxInt} {
				at := places(60, leaves+1)
				at[i] = wrong
				noPack(t, fmt.Sprint(n, " entries, leaf ", i, " at ", wrong), many(n), at, api.ErrForm)
			}
			for k := range i {
				at := places(60, leaves+1)
				at[i] = at[k]
				noPack(t, fmt.Sprint(n, " entries, leaves ", k, " and ", i, " at one place"), many(n), at, api.ErrForm)
			}
		}
	}
}

// P6.1: the root names the leaves' places in their order, and not its own, whatever that is; nor is it asked whether entries stand there.
func TestRootNamesTheLeavesAlone(t *testing.T) {
	l := many(7)
	for _, own := range []int{2, 60, 9, 127, 0, 1, 128, -1, math.MinInt, math.MaxInt} {
		b, e := Pack(l, []int{60, 9, 126, own})
		if e != api.OK || !slices.Equal(b, append(leavesOf(l...), rootOf(60, 9, 126))) {
			t.Errorf("the root at %d: %x, %d", own, b, e)
		}
	}
	b, e := Pack(l[:1], []int{2, 127})
	if e != api.OK || !slices.Equal(b, []api.Block{leafOf(l[0]), rootOf(2)}) {
		t.Error(b, e)
	}
	b, e = Pack(l[:1], []int{127, 2})
	if e != api.OK || !slices.Equal(b, []api.Block{leafOf(l[0]), rootOf(127)}) {
		t.Error(b, e)
	}
}

// P6.1: no leaves are an index of no entries.
func TestNoLeaves(t *testing.T) {
	for _, leaves := range [][]api.Block{nil, {}} {
		if l, e := Unpack(leaves); e != api.OK || len(l) != 0 {
			t.Error(l, e)
		}
	}
}

// P6.1: leaves that are not full ahead of the last one, wherever they stand; all else of them is right.
func TestLeavesThatAreNotFull(t *testing.T) {
	l := many(12)
	for _, cuts := range [][]int{{1, 2}, {1, 4}, {2, 3}, {2, 5}, {3, 4, 5}, {3, 5, 8}, {1, 4, 7}, {3, 6, 7, 8}, {3, 6, 8, 11}, {1, 2, 3, 4, 5}} {
		var leaves []api.Block
		from := 0
		for _, to := range cuts {
			leaves = append(leaves, leafOf(l[from:to]...))
			from = to
		}
		noUnpack(t, fmt.Sprint("leaves up to ", cuts), leaves...)
	}
	for n := 1; n <= 3; n++ {
		leaves := append(leavesOf(l[:6]...), leafOf(l[6:6+n]...))
		if got, e := Unpack(leaves); e != api.OK || !slices.Equal(got, l[:6+n]) {
			t.Errorf("the last leaf of %d: %v, %d", n, got, e)
		}
	}
}

// P6.1: leaves in another order, twice, or with one left out ahead of them (that is an index, too: of fewer entries).
func TestLeavesInAnotherOrder(t *testing.T) {
	l := many(12)
	b := leavesOf(l...)
	noUnpack(t, "the first two turned about", b[1], b[0], b[2], b[3])
	noUnpack(t, "the last two turned about", b[0], b[1], b[3], b[2])
	noUnpack(t, "the last one first", b[3], b[0], b[1], b[2])
	noUnpack(t, "one twice", b[0], b[0])
	noUnpack(t, "the first one again at the end", b[0], b[1], b[0])
	noUnpack(t, "the last one twice", b[0], b[1], b[2], b[3], b[3])
	noUnpack(t, "one entry twice", leafOf(l[0]), leafOf(l[0]))
	if got, e := Unpack([]api.Block{b[0], b[2]}); e != api.OK || !slices.Equal(got, slices.Concat(l[:3], l[6:9])) {
		t.Error(got, e)
	}
}

// P6.1: leaves each right by itself that have a block in common, neighbours or not.
func TestLeavesWithABlockInCommon(t *testing.T) {
	for i := range 9 {
		for k := range 9 {
			if i/3 != k/3 {
				l := many(9)
				l[i].Place = l[k].Place
				noUnpack(t, fmt.Sprint("entries ", i, " and ", k), leavesOf(l...)...)
			}
		}
	}
}

// P6.1: a leaf that is spoilt, at whichever place, in whichever byte; a root is no leaf, and zeros are none.
func TestSpoiltLeaves(t *testing.T) {
	leaves := leavesOf(many(8)...)
	for i := range leaves {
		for at := range api.Size {
			b := slices.Clone(leaves)
			b[i][at] ^= 1
			noUnpack(t, fmt.Sprint("leaf ", i, ", byte ", at, " another"), b...)
		}
		for _, wrong := range []api.Block{{}, rootOf(60, 61, 62), leafOf(), {0x4c}} {
			b := slices.Clone(leaves)
			b[i] = wrong
			noUnpack(t, fmt.Sprint("leaf ", i, " is none"), b...)
		}
		noUnpack(t, fmt.Sprint("something that is none ahead of leaf ", i), slices.Insert(slices.Clone(leaves), i, api.Block{})...)
	}
	noUnpack(t, "zeros behind", append(slices.Clone(leaves), api.Block{})...)
	noUnpack(t, "zeros behind full leaves", append(leavesOf(many(6)...), api.Block{})...)
	noUnpack(t, "the root behind full leaves", append(leavesOf(many(6)...), rootOf(60, 61))...)
	noUnpack(t, "a root alone", rootOf(60))
	noUnpack(t, "very many that are none", make([]api.Block, 1000)...)
}

// P6.3: mixed entries: of every length, in free blocks as they come, with any Refs.
func TestUnpackOfPack(t *testing.T) {
	x := uint32(7)
	next := func(n int) int {
		x = x*1664525 + 1013904223
		return int(x>>8) % n
	}
	for range 2000 {
		var l []api.Entry
		for place, n := 2+next(5), 0; place < 128; n += 1 + next(500) {
			blocks := 1 + next(min(8, 128-place))
			l = append(l, api.Entry{Key: key(n), Place: place, Blocks: blocks, Refs: next(1001)})
			place += blocks + next(3)*next(10)
		}
		for i := range l {
			k := next(i + 1)
			l[i].Place, l[i].Blocks, l[k].Place, l[k].Blocks = l[k].Place, l[k].Blocks, l[i].Place, l[i].Blocks
		}
		isIndex(t, l...)
		b, _ := Pack(l, places(2, Size(len(l))))
		if got, e := Unpack(b[:len(b)-1]); e != api.OK || !slices.Equal(got, l) {
			t.Fatalf("Unpack of Pack(%v): %v, %d", l, got, e)
		}
	}
}
