package object

import (
	"bytes"
	"crypto/sha256"
	"math"
	"slices"
	"testing"

	"codex/api"
)

// bytesOf is n bytes that don't repeat from block to block, none of them zero, so that a byte that is lost or moved shows.
func bytesOf(n int) []byte {
	b := make([]byte, n)
	x := uint32(n)*2654435761 + 1
	for i := range b {
		x = x*1664525 + 1013904223
		b[i] = byte(x>>24) | 1
	}
	return b
}

// sealed is a text with its check behind it, by the library's SHA-256.
func sealed(text []byte) []byte {
	sum := sha256.Sum256(text)
	return slices.Concat(text, sum[:4])
}

// cut is a text as whole blocks, n of them at least.
func cut(text []byte, n int) []api.Block {
	for len(text)%128 != 0 || len(text) < n*128 {
		text = append(slices.Clone(text), 0)
	}
	var l []api.Block
	for ; len(text) > 0; text = text[128:] {
		l = append(l, api.Block(text[:128]))
	}
	return l
}

// headOf is a frame's first three bytes, whether an object can have them or not.
func headOf(kind, n int) []byte { return []byte{byte(kind), byte(n / 256), byte(n % 256)} }

// plain is an object's frame by the chapter's words alone.
func plain(kind int, body []byte) []api.Block {
	return cut(sealed(slices.Concat(headOf(kind, len(body)), body)), 1)
}

func framed(t *testing.T, kind int, body []byte) []api.Block {
	t.Helper()
	l, e := Frame(kind, body)
	if e != api.OK {
		t.Fatalf("Frame of kind %d, %d bytes: %d", kind, len(body), e)
	}
	return l
}

func unframed(t *testing.T, l []api.Block, kind int, body []byte) {
	t.Helper()
	k, b, e := Body(l)
	if k != kind || !bytes.Equal(b, body) || e != api.OK {
		t.Fatalf("Body of kind %d, %d bytes: %d, %v, %d", kind, len(body), k, b, e)
	}
}

func refused(t *testing.T, name string, l []api.Block) {
	t.Helper()
	if k, b, e := Body(l); k != 0 || len(b) != 0 || e != api.ErrForm {
		t.Errorf("Body of %s: %d, %v, %d", name, k, b, e)
	}
}

// P3.1: the chapter's example, and each length about which one more block is needed.
func TestBlocksAtTheEdges(t *testing.T) {
	for _, v := range []struct{ n, want int }{
		{math.MinInt, 0}, {math.MinInt + 6, 0}, {-128, 0}, {-7, 0}, {-1, 0},
		{0, 1}, {1, 1}, {120, 1}, {121, 1}, {122, 2}, {249, 2}, {250, 3}, {377, 3}, {378, 4},
		{505, 4}, {506, 5}, {633, 5}, {634, 6}, {761, 6}, {762, 7}, {889, 7}, {890, 8}, {999, 8}, {1000, 8},
		{1001, 0}, {1017, 0}, {1018, 0}, {65535, 0}, {65536, 0}, {1 << 32, 0}, {math.MaxInt - 134, 0}, {math.MaxInt, 0},
	} {
		if got := Blocks(v.n); got != v.want {
			t.Errorf("Blocks(%d): %d; want %d", v.n, got, v.want)
		}
	}
}

// P3.1, P3.2: a body of each length, of each kind: the frame byte by byte, as many blocks as Blocks says, and the object out of it.
func TestFrameOfEveryLength(t *testing.T) {
	for n := range api.MaxBody + 1 {
		for kind := api.KindSource; kind <= api.KindLog; kind++ {
			body := bytesOf(n)
			l := framed(t, kind, body)
			if !slices.Equal(l, plain(kind, body)) || len(l) != Blocks(n) {
				t.Fatalf("Frame of kind %d, %d bytes: %d blocks: %x", kind, n, len(l), l)
			}
			unframed(t, l, kind, body)
		}
	}
}

// P3.1: a frame written out by hand: its check is of the three bytes 03 00 00, its zeros reach to the block's end.
func TestFrameOfNoBody(t *testing.T) {
	sum := sha256.Sum256([]byte{3, 0, 0})
	want := api.Block{3, 0, 0, sum[0], sum[1], sum[2], sum[3]}
	for _, body := range [][]byte{nil, {}} {
		if l := framed(t, api.KindPage, body); len(l) != 1 || l[0] != want {
			t.Errorf("Frame of no body: %x; want %x", l, want)
		}
	}
	unframed(t, []api.Block{want}, api.KindPage, nil)
}

// P3.2: bodies that look like a frame's other parts: zeros, all bits, a frame itself.
func TestBodyOfFrameOfOddBodies(t *testing.T) {
	for kind := api.KindSource; kind <= api.KindLog; kind++ {
		for _, n := range []int{1, 4, 117, 121, 122, 125, 126, 249, 250, 993, 1000} {
			inner := join(plain(kind, bytesOf(n/2)))
			for _, body := range [][]byte{make([]byte, n), bytes.Repeat([]byte{0xff}, n), inner[:min(n, len(inner))]} {
				l := framed(t, kind, body)
				if !slices.Equal(l, plain(kind, body)) {
					t.Fatalf("Frame of kind %d, %d bytes: %x", kind, len(body), l)
				}
				unframed(t, l, kind, body)
			}
		}
	}
}

// P3.1: kinds that are none, those among them that a byte cuts down to a kind, and bodies that are too long.
func TestFrameOfNoObject(t *testing.T) {
	for _, v := range []struct{ kind, n int }{
		{0, 0}, {0, 5}, {7, 0}, {7, 5}, {-1, 0}, {-250, 0}, {-255, 1}, {255, 0}, {256, 0}, {257, 1}, {262, 1},
		{math.MinInt, 0}, {math.MinInt + 1, 0}, {math.MaxInt, 0}, {1 + 1<<32, 0},
		{1, 1001}, {6, 1001}, {1, 1017}, {1, 1018}, {3, 65535}, {3, 65536}, {3, 65537}, {0, 1001}, {7, 70000},
	} {
		if l, e := Frame(v.kind, make([]byte, v.n)); len(l) != 0 || e != api.ErrArg {
			t.Errorf("Frame of kind %d, %d bytes: %x, %d", v.kind, v.n, l, e)
		}
	}
}

// P3.1: blocks that are none, zeros, a block too few or too many, whatever stands in it, or in another order.
func TestBodyOfOtherBlocks(t *testing.T) {
	refused(t, "nil", nil)
	refused(t, "no blocks", []api.Block{})
	for n := 1; n <= 9; n++ {
		refused(t, "zeros", make([]api.Block, n))
	}
	for _, n := range []int{0, 1, 121, 122, 249, 250, 505, 889, 890, 1000} {
		l := framed(t, api.KindTree, bytesOf(n))
		for k := range l {
			refused(t, "a part from the first block on", l[:k])
			refused(t, "a part up to the last block", l[k+1:])
			refused(t, "a block left out", slices.Delete(slices.Clone(l), k, k+1))
			refused(t, "a block twice", slices.Insert(slices.Clone(l), k, l[k]))
			if k > 0 {
				swapped := slices.Clone(l)
				swapped[k-1], swapped[k] = swapped[k], swapped[k-1]
				refused(t, "blocks swapped", swapped)
			}
		}
		refused(t, "a block of zeros more", append(slices.Clone(l), api.Block{}))
		refused(t, "a block of zeros ahead", append([]api.Block{{}}, l...))
		refused(t, "the frame twice", slices.Concat(l, l))
		refused(t, "very many blocks", append(slices.Clone(l), make([]api.Block, 70000)...))
	}
}

// P3.1: no bit of a frame may be another one: of the kind, the length, the body, the check, the zeros.
func TestBodyOfEveryBitTurned(t *testing.T) {
	for _, n := range []int{0, 1, 118, 120, 121, 122, 125, 126, 250, 1000} {
		l := framed(t, api.KindRev, bytesOf(n))
		for i := range len(l) * 128 {
			for bit := range 8 {
				c := slices.Clone(l)
				c[i/128][i%128] ^= 1 << bit
				if k, b, e := Body(c); k != 0 || len(b) != 0 || e != api.ErrForm {
					t.Fatalf("%d bytes, bit %d of byte %d: %d, %v, %d", n, bit, i, k, b, e)
				}
			}
		}
	}
}

// P3.1: a check that is right does not make an object of a kind that is none.
func TestBodyOfNoKind(t *testing.T) {
	for kind := range 256 {
		for _, n := range []int{0, 100, 122, 1000} {
			l := plain(kind, bytesOf(n))
			if kind >= api.KindSource && kind <= api.KindLog {
				unframed(t, l, kind, bytesOf(n))
				continue
			}
			refused(t, "no kind, its check right", l)
		}
	}
}

// P3.1: lengths that do not fit the blocks, the check of as many bytes behind them: too long a body, one that ends blocks ahead, or behind.
func TestBodyOfNoLength(t *testing.T) {
	for _, n := range []int{1001, 1002, 1016, 1017, 1018, 1145, 65535} {
		refused(t, "too long a body, its check right", plain(1, bytesOf(n)))
	}
	for n := range api.MaxBody + 1 {
		text := sealed(slices.Concat(headOf(2, n), bytesOf(n)))
		for more := 1; more <= 2; more++ {
			refused(t, "zero blocks behind, the check right", cut(text, Blocks(n)+more))
		}
		refused(t, "a length of one more", cut(sealed(slices.Concat(headOf(2, n+1), bytesOf(n))), 1))
		if n > 0 {
			refused(t, "a length of one less", cut(sealed(slices.Concat(headOf(2, n-1), bytesOf(n))), 1))
		}
	}
	for _, n := range []int{0xff00, 0xffff, 0x8000, 1001, 1020, 1021, 1024} {
		for k := 1; k <= 9; k++ {
			l := cut(bytesOf(k*128), k)
			copy(l[0][:], headOf(3, n))
			refused(t, "a length that goes beyond the blocks", l)
		}
	}
	refused(t, "the lower byte first", cut(sealed(slices.Concat([]byte{1, 44, 1}, bytesOf(300))), 3))
}

// P3.1: checks that are of something else than the kind, the length and the body, or stand elsewhere.
func TestBodyOfOtherChecks(t *testing.T) {
	for _, n := range []int{0, 1, 50, 117, 121, 122, 250, 996} {
		body := bytesOf(n)
		text := slices.Concat(headOf(4, n), body)
		of := func(b []byte) []byte { s := sha256.Sum256(b); return s[:4] }
		back := of(text)
		slices.Reverse(back)
		last := sha256.Sum256(text)
		for name, check := range map[string][]byte{
			"zeros":               make([]byte, 4),
			"of the body alone":   of(body),
			"without the kind":    of(text[1:]),
			"without the length":  of(slices.Concat(text[:1], body)),
			"of the body and on":  of(append(slices.Clone(text), 0)),
			"of another kind":     of(slices.Concat(headOf(5, n), body)),
			"the last four bytes": last[28:],
			"turned about":        back,
			"one byte later":      append([]byte{0}, of(text)...),
			"three bytes of it":   append(of(text)[:3], of(text)[3]^0x80),
		} {
			refused(t, "check "+name, cut(slices.Concat(text, check), Blocks(n)))
		}
	}
}

// P3.1: nothing but zeros may stand behind the check, be it a check as well.
func TestBodyWithMoreThanZerosBehind(t *testing.T) {
	for n := range api.MaxBody + 1 {
		l := framed(t, api.KindStyle, bytesOf(n))
		for i := n + 7; i < len(l)*128; i += 1 + (i-n-7)/5 {
			c := slices.Clone(l)
			c[i/128][i%128] = byte(1 + i%255)
			refused(t, "something behind the check", c)
		}
		if n+8 <= len(l)*128 {
			c := slices.Clone(l)
			c[len(l)-1][127] = 1
			refused(t, "something at the end", c)
		}
	}
	twice := sealed(sealed(headOf(1, 0)))
	refused(t, "a check of the check behind", cut(twice, 1))
}

// P3.1: what is handed in stays as it is, its spare room included, and is not kept.
func TestArgumentsStay(t *testing.T) {
	for _, n := range []int{0, 1, 121, 122, 300, 993} {
		room := append(bytesOf(n), 7, 7, 7, 7, 7, 7, 7, 7)
		was := slices.Clone(room)
		l := framed(t, api.KindLog, room[:n])
		if !bytes.Equal(room, was) {
			t.Errorf("Frame of %d bytes changed what it was given", n)
		}
		clear(room)
		unframed(t, l, api.KindLog, was[:n])

		blocks := append(slices.Clone(l), api.Block{5}, api.Block{6})
		before := slices.Clone(blocks)
		_, body, _ := Body(blocks[:len(l)])
		if !slices.Equal(blocks, before) {
			t.Errorf("Body of %d bytes changed what it was given", n)
		}
		clear(blocks)
		if !bytes.Equal(body, was[:n]) {
			t.Errorf("Body of %d bytes kept what it was given", n)
		}
	}
}

// P3.1: answers share no memory with each other or with an argument, their spare room neither.
func TestAnswersAreNew(t *testing.T) {
	for _, n := range []int{0, 1, 121, 122, 1000} {
		body := bytesOf(n)
		first, second := framed(t, api.KindSource, body), framed(t, api.KindSource, body)
		clear(first[:cap(first)])
		unframed(t, second, api.KindSource, body)

		_, a, _ := Body(second)
		_, b, _ := Body(second)
		clear(a[:cap(a)])
		if !bytes.Equal(b, body) || !bytes.Equal(body, bytesOf(n)) {
			t.Errorf("two bodies of %d bytes share memory", n)
		}
		unframed(t, second, api.KindSource, body)
	}
}
