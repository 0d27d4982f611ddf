package sha

import (
	"bytes"
	"cmp"
	"crypto/sha256"
	"encoding/hex"
	"math"
	"slices"
	"strings"
	"testing"

	"codex/api"
)

// bytesOf is n bytes that don't repeat from block to block, so that a block taken twice or left out shows.
func bytesOf(n int) []byte {
	b := make([]byte, n)
	x := uint32(n)*2654435761 + 1
	for i := range b {
		x = x*1664525 + 1013904223
		b[i] = byte(x >> 24)
	}
	return b
}

func digest(t *testing.T, text string) api.Digest {
	t.Helper()
	b, err := hex.DecodeString(text)
	if err != nil || len(b) != len(api.Digest{}) {
		t.Fatalf("no digest: %q, %v", text, err)
	}
	return api.Digest(b)
}

// P2.1: digests that the standard's own examples name, by another hand than the library's.
func TestSumOfKnownTexts(t *testing.T) {
	known := []struct{ text, want string }{
		{"", "e3b0c44298fc1c149afbf4c8996fb92427ae41e4649b934ca495991b7852b855"},
		{"abc", "ba7816bf8f01cfea414140de5dae2223b00361a396177a9cb410ff61f20015ad"},
		{"abcdbcdecdefdefgefghfghighijhijkijkljklmklmnlmnomnopnopq", "248d6a61d20638b8e5c026930c3e6039a33ce45964ff2167f6ecedd419db06c1"},
		{strings.Repeat("a", 1000000), "cdc76e5c9914fb9281a1c7e284d73e67f1809a48a497200e046d39ccc7112cd0"},
	}
	for _, k := range known {
		want := digest(t, k.want)
		if got := Sum([]byte(k.text)); got != want {
			t.Errorf("Sum of %d bytes: %x; want %x", len(k.text), got, want)
		}
		if got := Check([]byte(k.text)); got != [4]byte(want[:4]) {
			t.Errorf("Check of %d bytes: %x; want %x", len(k.text), got, want[:4])
		}
	}
}

// P2.1: every length up to some blocks, so each about which the padding needs one block more (55 and 56, 119 and 120 ..).
func TestSumOfEveryLength(t *testing.T) {
	for n := range 5*64 + 2 {
		for _, b := range [][]byte{bytesOf(n), make([]byte, n), bytes.Repeat([]byte{0xff}, n), bytes.Repeat([]byte{0x80}, n)} {
			want := sha256.Sum256(b)
			if got := Sum(b); got != want {
				t.Fatalf("Sum of %d bytes: %x; want %x", n, got, want)
			}
			if got := Check(b); got != [4]byte(want[:4]) {
				t.Fatalf("Check of %d bytes: %x; want %x", n, got, want[:4])
			}
		}
	}
}

// P2.1: lengths whose number of bits needs more than two, and more than three bytes.
func TestSumOfLongTexts(t *testing.T) {
	for _, n := range []int{1000, 8191, 8192, 8193, 65535, 65536, 1<<21 - 1, 1 << 21, 1<<21 + 63, 3<<20 + 56} {
		b := bytesOf(n)
		if got, want := Sum(b), sha256.Sum256(b); got != want {
			t.Errorf("Sum of %d bytes: %x; want %x", n, got, want)
		}
	}
}

// P2.1: a length in bits may have more than 32 of them; piece by piece, so that half a gigabyte need not stand in memory.
func TestLengthBeyondThirtyTwoBits(t *testing.T) {
	s, want := state{hash: first}, sha256.New()
	piece := bytesOf(1 << 20)
	for range 512 {
		s.add(piece)
		want.Write(piece)
	}
	s.add(piece[:5])
	want.Write(piece[:5])
	if got := s.end(); got != api.Digest(want.Sum(nil)) {
		t.Errorf("of 2^29 + 5 bytes: %x; want %x", got, want.Sum(nil))
	}
}

// P2.1: the kind is one byte, modulo 256, ahead of the body; about the padding's edges that byte counts, too.
func TestOfPutsKindAhead(t *testing.T) {
	kinds := []struct {
		kind int
		want byte
	}{
		{0, 0}, {1, 1}, {api.KindSource, 1}, {api.KindLog, 6}, {127, 127}, {128, 128}, {254, 254}, {255, 255},
		{256, 0}, {257, 1}, {511, 255}, {512, 0}, {1<<32 + 3, 3},
		{-1, 255}, {-2, 254}, {-255, 1}, {-256, 0}, {-257, 255}, {-1 << 32, 0},
		{math.MaxInt, 255}, {math.MinInt, 0}, {math.MinInt + 1, 1},
	}
	for _, k := range kinds {
		for n := range 3*64 + 2 {
			body := bytesOf(n)
			want := api.Digest(sha256.Sum256(append([]byte{k.want}, body...)))
			if got := Of(k.kind, body); got != want {
				t.Fatalf("Of(%d) of %d bytes: %x; want %x", k.kind, n, got, want)
			}
		}
	}
}

// P2.1: Of is Sum of the bytes in one row, and no two kinds of the 256 have one digest.
func TestOfIsSumOfTheRow(t *testing.T) {
	seen := map[api.Digest]int{}
	for kind := range 256 {
		d := Of(kind, []byte("xy"))
		if d != Sum([]byte{byte(kind), 'x', 'y'}) {
			t.Errorf("Of(%d) is not the sum of the row", kind)
		}
		if other, ok := seen[d]; ok {
			t.Errorf("kinds %d and %d have one digest", kind, other)
		}
		seen[d] = kind
	}
}

// P2.1: nil and empty are one; a kind without a body is one byte.
func TestNoBytes(t *testing.T) {
	if Sum(nil) != Sum([]byte{}) || Sum(nil) != sha256.Sum256(nil) {
		t.Errorf("Sum of nothing: %x, %x", Sum(nil), Sum([]byte{}))
	}
	if Check(nil) != Check([]byte{}) || Check(nil) != [4]byte{0xe3, 0xb0, 0xc4, 0x42} {
		t.Errorf("Check of nothing: %x, %x", Check(nil), Check([]byte{}))
	}
	if Of(7, nil) != Of(7, []byte{}) || Of(7, nil) != sha256.Sum256([]byte{7}) {
		t.Errorf("Of nothing: %x, %x", Of(7, nil), Of(7, []byte{}))
	}
}

// P2.1: neither the bytes nor the room about them are changed, nor does that room count.
func TestArgumentsStay(t *testing.T) {
	for n := range 3 * 64 {
		room := bytesOf(n + 300)
		old := slices.Clone(room)
		b := room[100 : 100+n]
		want := sha256.Sum256(slices.Clone(b))
		if Sum(b) != want || Check(b) != [4]byte(want[:4]) {
			t.Fatalf("of %d bytes in a greater room: %x", n, Sum(b))
		}
		if Of(1, b) != sha256.Sum256(append([]byte{1}, b...)) {
			t.Fatalf("Of %d bytes in a greater room: %x", n, Of(1, b))
		}
		if !bytes.Equal(room, old) {
			t.Fatalf("of %d bytes: written into", n)
		}
	}
}

// P2.1: an answer hangs on the arguments alone, and stays when they are changed later.
func TestAnswersHangOnArgumentsAlone(t *testing.T) {
	b := bytesOf(150)
	sum, of, check := Sum(b), Of(3, b), Check(b)
	for n := range 70 {
		Sum(bytesOf(n))
		Of(n, bytesOf(200-n))
		if Sum(b) != sum || Of(3, b) != of || Check(b) != check {
			t.Fatalf("another answer behind %d calls", n)
		}
	}
	was := sum
	b[149]++
	if sum != was || Sum(b) == sum || Of(3, b) == of {
		t.Error("the last byte doesn't count, or the answer went with it")
	}
}

// P2.2: equal digests; digests that differ in one byte alone, at any place, the first and the last one among them.
func TestLessByOneByte(t *testing.T) {
	for _, base := range []api.Digest{{}, Sum([]byte("abc")), api.Digest(bytes.Repeat([]byte{0x80}, 32))} {
		if Less(base, base) {
			t.Errorf("%x ahead of itself", base)
		}
		for i := range base {
			for v := range 256 {
				other := base
				other[i] = byte(v)
				if got, want := Less(base, other), int(base[i]) < v; got != want {
					t.Errorf("byte %d: %d ahead of %d: %v", i, base[i], v, got)
				}
				if got, want := Less(other, base), v < int(base[i]); got != want {
					t.Errorf("byte %d: %d ahead of %d: %v", i, v, base[i], got)
				}
			}
		}
	}
}

// P2.2: the first byte that differs decides, whatever those behind it say; bytes are numbers from 0 to 255.
func TestLessByTheFirstByteThatDiffers(t *testing.T) {
	for i := range api.Hash {
		a, b := Sum([]byte{byte(i)}), Sum([]byte{byte(i)})
		a[i], b[i] = 127, 128
		for k := i + 1; k < api.Hash; k++ {
			a[k], b[k] = 255, 0
		}
		if !Less(a, b) || Less(b, a) {
			t.Errorf("byte %d: %v, %v", i, Less(a, b), Less(b, a))
		}
	}
}

// P2.2: in one row with the hexadecimal texts, which stand by the same order.
func TestLessIsTheOrderOfTheTexts(t *testing.T) {
	for i := range 200 {
		a, b := Sum(bytesOf(i)), Sum(bytesOf(i+1))
		copy(b[:i%33], a[:i%33])
		if got, want := Less(a, b), hex.EncodeToString(a[:]) < hex.EncodeToString(b[:]); got != want {
			t.Errorf("%x ahead of %x: %v", a, b, got)
		}
	}
}

// many are digests with long and short beginnings in common, some of them twice.
func many() []api.Digest {
	l := []api.Digest{{}, {}, {0: 1}, {31: 1}, {0: 1, 31: 1}, {0: 128}, {0: 127, 1: 255}, {0: 255}, {31: 255}, {15: 1}, {16: 1}, {15: 1, 16: 255}}
	for i := range 30 {
		d := Sum([]byte{byte(i / 2)})
		l = append(l, d)
		d[i]++
		l = append(l, d)
	}
	return l
}

// P2.3: of two digests one is ahead just if they differ; and what is ahead of one ahead of a third is ahead of that.
func TestLessIsAnOrder(t *testing.T) {
	l := many()
	for _, a := range l {
		for _, b := range l {
			ab, ba := Less(a, b), Less(b, a)
			if ab && ba || (ab || ba) != (a != b) {
				t.Fatalf("%x and %x: %v, %v", a, b, ab, ba)
			}
			for _, c := range l {
				if ab && Less(b, c) && !Less(a, c) {
					t.Fatalf("%x, %x, %x: not carried on", a, b, c)
				}
			}
		}
	}
}

// P2.3: so a list has one order, from whatever order it comes.
func TestLessSorts(t *testing.T) {
	by := func(a, b api.Digest) int {
		if Less(a, b) {
			return -1
		}
		if Less(b, a) {
			return 1
		}
		return 0
	}
	l := many()
	slices.SortFunc(l, by)
	for seed := range 20 {
		m := many()
		slices.SortFunc(m, func(a, b api.Digest) int {
			return cmp.Compare(int(a[seed])*7%11, int(b[seed])*7%11)
		})
		slices.SortFunc(m, by)
		if !slices.Equal(l, m) {
			t.Fatalf("from order %d another one", seed)
		}
	}
	for i := 1; i < len(l); i++ {
		if hex.EncodeToString(l[i-1][:]) > hex.EncodeToString(l[i][:]) {
			t.Errorf("place %d: %x behind %x", i, l[i], l[i-1])
		}
	}
}
