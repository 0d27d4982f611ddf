package style

import (
	"bytes"
	"math"
	"slices"
	"testing"

	"codex/api"
)

// five are a style's numbers in the order in which they are laid.
type five [5]int

// style names the numbers.
func (n five) style() api.Style {
	return api.Style{Width: n[0], Height: n[1], Tol: n[2], Cost: n[3], Indent: n[4]}
}

// with is the numbers, but for the one at i.
func (n five) with(i, x int) five {
	n[i] = x
	return n
}

// bytes lays the last sixteen bits of each number by division, not by shifts.
func (n five) bytes() []byte {
	var b []byte
	for _, x := range n {
		low := ((x % 65536) + 65536) % 65536
		b = append(b, byte(low/256), byte(low%256))
	}
	return b
}

// least and most are the chapter's bounds, in numbers.
func least() five { return five{40, 3, 0, 0, 0} }

func most() five { return five{400, 20, 10000, 1000, 30} }

// may tells whether the number at i may be x.
func may(i, x int) bool { return x >= least()[i] && x <= most()[i] }

// bases are good numbers, about which one is changed at a time.
func bases() []five {
	return []five{least(), most(), {300, 5, 10000, 258, 30}, {257, 4, 513, 770, 7}, {256, 16, 256, 256, 16}, {255, 19, 255, 255, 29}}
}

// odd are numbers that may be nowhere, whatever their last two bytes are.
func odd() []int {
	l := []int{-1, -2, -255, -256, -257, -65536, -65535, math.MinInt, math.MinInt + 1, math.MinInt + 40, math.MaxInt, math.MaxInt - 1, math.MinInt16, math.MinInt32, math.MaxInt32, math.MaxUint16, math.MaxUint32}
	for _, low := range []int{0, 3, 20, 30, 40, 400, 1000} {
		l = append(l, 1<<16+low, 1<<17+low, 1<<32+low, 1<<62+low, low-1<<16, low-1<<32, math.MinInt+low)
	}
	return l
}

// refused fails unless s is told to be none.
func refused(t *testing.T, s api.Style) {
	t.Helper()
	if Good(s) {
		t.Fatalf("Good(%v)", s)
	}
	if b, e := Encode(s); e != api.ErrForm || len(b) != 0 {
		t.Fatalf("Encode(%v) = %v, %v", s, b, e)
	}
}

// taken fails unless s is good and has those bytes, both ways.
func taken(t *testing.T, s api.Style, want []byte) {
	t.Helper()
	if !Good(s) {
		t.Fatalf("Good(%v) is false", s)
	}
	if b, e := Encode(s); e != api.OK || !bytes.Equal(b, want) {
		t.Fatalf("Encode(%v) = %v, %v, want %v", s, b, e, want)
	}
	if x, e := Decode(want); e != api.OK || x != s {
		t.Fatalf("Decode(%v) = %v, %v, want %v", want, x, e, s)
	}
}

// spoilt fails unless b is told to be no style's bytes.
func spoilt(t *testing.T, b []byte) {
	t.Helper()
	if s, e := Decode(b); e != api.ErrForm || s != (api.Style{}) {
		t.Fatalf("Decode(%v) = %v, %v", b, s, e)
	}
}

// P12.1: the limits are the numbers that the tests hold them against.
func TestLimits(t *testing.T) {
	low := five{api.MinWidth, api.MinHeight, 0, 0, 0}
	high := five{api.MaxWidth, api.MaxHeight, api.MaxTol, api.MaxCost, api.MaxIndent}
	if low != least() || high != most() {
		t.Error(low, high)
	}
}

// P12.1: styles written out byte by byte; each number at its place, the higher byte first.
func TestBytes(t *testing.T) {
	for _, x := range []struct {
		n five
		b []byte
	}{
		{five{40, 3, 0, 0, 0}, []byte{0, 40, 0, 3, 0, 0, 0, 0, 0, 0}},
		{five{400, 20, 10000, 1000, 30}, []byte{1, 144, 0, 20, 39, 16, 3, 232, 0, 30}},
		{five{300, 5, 10000, 258, 30}, []byte{1, 44, 0, 5, 39, 16, 1, 2, 0, 30}},
		{five{255, 3, 255, 255, 1}, []byte{0, 255, 0, 3, 0, 255, 0, 255, 0, 1}},
		{five{256, 3, 256, 256, 1}, []byte{1, 0, 0, 3, 1, 0, 1, 0, 0, 1}},
		{five{257, 6, 772, 515, 9}, []byte{1, 1, 0, 6, 3, 4, 2, 3, 0, 9}},
	} {
		taken(t, x.n.style(), x.b)
	}
}

// P12.1: each number at its least and its most, the others as they may be; one below and one above.
func TestEdges(t *testing.T) {
	for _, n := range bases() {
		for i := range n {
			for _, x := range []int{least()[i], least()[i] + 1, most()[i] - 1, most()[i]} {
				m := n.with(i, x)
				taken(t, m.style(), m.bytes())
			}
			for _, x := range []int{least()[i] - 1, most()[i] + 1} {
				refused(t, n.with(i, x).style())
			}
		}
	}
}

// P12.1, P12.2: each number that two bytes hold, and those about them, at each place.
func TestEachNumber(t *testing.T) {
	for _, n := range bases() {
		for i := range n {
			for x := -300; x < 1<<16; x++ {
				m := n.with(i, x)
				if may(i, x) {
					taken(t, m.style(), m.bytes())
					continue
				}
				refused(t, m.style())
				if x >= 0 {
					spoilt(t, m.bytes())
				}
			}
		}
	}
}

// P12.1: numbers that may be nowhere, at each place; not even if their last two bytes are those of one that may be.
func TestOddNumbers(t *testing.T) {
	for _, n := range bases() {
		for i := range n {
			for _, x := range odd() {
				refused(t, n.with(i, x).style())
			}
			for k := 16; k < 63; k++ {
				for _, low := range []int{n[i], least()[i], most()[i]} {
					refused(t, n.with(i, low+1<<k).style())
					refused(t, n.with(i, low-1<<k).style())
				}
			}
		}
	}
	refused(t, api.Style{})
	refused(t, five{-40, -3, -1, -1, -1}.style())
	refused(t, five{math.MaxInt, math.MaxInt, math.MaxInt, math.MaxInt, math.MaxInt}.style())
	refused(t, five{math.MinInt, math.MinInt, math.MinInt, math.MinInt, math.MinInt}.style())
}

// P12.1: any two numbers that may not be are no better than one.
func TestTwoWrong(t *testing.T) {
	for i := range 5 {
		for j := range i {
			for _, x := range []int{least()[i] - 1, most()[i] + 1} {
				for _, y := range []int{least()[j] - 1, most()[j] + 1} {
					refused(t, five{300, 5, 200, 100, 10}.with(i, x).with(j, y).style())
				}
			}
		}
	}
}

// P12.1: only ten bytes are a style's, whatever they begin with or end in.
func TestLengths(t *testing.T) {
	spoilt(t, nil)
	spoilt(t, []byte{})
	for _, n := range bases() {
		for k := range 10 {
			spoilt(t, n.bytes()[:k])
			spoilt(t, n.bytes()[10-k:])
		}
		for _, k := range []int{1, 2, 10, 118, 65536} {
			spoilt(t, append(n.bytes(), make([]byte, k)...))
			spoilt(t, append(make([]byte, k), n.bytes()...))
		}
		spoilt(t, append(n.bytes(), n.bytes()...))
		spoilt(t, append(n.bytes(), n.bytes()[:1]...))
	}
}

// P12.1, example 1: ten zeros are no style's bytes, nor are other bytes all alike.
func TestAlike(t *testing.T) {
	for x := range 256 {
		spoilt(t, bytes.Repeat([]byte{byte(x)}, 10))
	}
}

// P12.1: each byte of a style's bytes turned to each other one is another style's, or none's.
func TestTurned(t *testing.T) {
	for _, n := range bases() {
		for at := range 10 {
			for x := range 256 {
				b := n.bytes()
				b[at] = byte(x)
				m := n.with(at/2, int(b[at/2*2])*256+int(b[at/2*2+1]))
				if may(at/2, m[at/2]) {
					taken(t, m.style(), b)
				} else {
					spoilt(t, b)
				}
			}
		}
	}
}

// P12.2: Decode of Encode is the style, of many whose numbers all differ from one to the next.
func TestThereAndBack(t *testing.T) {
	step := five{7, 5, 3, 17, 11} // each goes through all that its number may be
	for k := range 200000 {
		n := least()
		for i := range n {
			n[i] += k * step[i] % (most()[i] - least()[i] + 1)
		}
		b, e := Encode(n.style())
		if e != api.OK || !bytes.Equal(b, n.bytes()) {
			t.Fatalf("Encode(%v) = %v, %v", n, b, e)
		}
		if s, e := Decode(b); e != api.OK || s != n.style() {
			t.Fatalf("Decode of Encode(%v) = %v, %v", n, s, e)
		}
	}
}

// P12.1: what is handed in stays, its spare room included, and what is told shares no memory with what was told before.
func TestMemory(t *testing.T) {
	room := append(five{300, 5, 200, 100, 10}.bytes(), 9, 9, 9)
	before := slices.Clone(room)
	Decode(room[:10])
	Decode(room[:9])
	if !bytes.Equal(room, before) {
		t.Error(room)
	}
	s := five{300, 5, 200, 100, 10}.style()
	one, _ := Encode(s)
	two, _ := Encode(s)
	clear(one[:cap(one)])
	if three, _ := Encode(s); !bytes.Equal(two, before[:10]) || !bytes.Equal(three, before[:10]) {
		t.Error(two, three)
	}
}
