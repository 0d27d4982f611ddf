package utf

import (
	"bytes"
	"math"
	"slices"
	"strings"
	"testing"

	"codex/api"
)

// encoded is a code point by RFC 3629's section 3: its bits, from the right on, in a sign of so many bytes.
func encoded(sign int) string {
	tail := func(shift int) byte { return byte(0x80 + sign/(1<<shift)%64) }
	switch {
	case sign < 0x80:
		return string([]byte{byte(sign)})
	case sign < 0x800:
		return string([]byte{byte(0xc0 + sign/(1<<6)), tail(0)})
	case sign < 0x10000:
		return string([]byte{byte(0xe0 + sign/(1<<12)), tail(6), tail(0)})
	}
	return string([]byte{byte(0xf0 + sign/(1<<18)), tail(12), tail(6), tail(0)})
}

// between is the bytes that may stand at one place of a sign.
type between struct{ first, last byte }

// forms is RFC 3629's section 4: what signs may look like.
func forms() [][]between {
	tail := between{0x80, 0xbf}
	return [][]between{
		{{0x00, 0x7f}},
		{{0xc2, 0xdf}, tail},
		{{0xe0, 0xe0}, {0xa0, 0xbf}, tail},
		{{0xe1, 0xec}, tail, tail},
		{{0xed, 0xed}, {0x80, 0x9f}, tail},
		{{0xee, 0xef}, tail, tail},
		{{0xf0, 0xf0}, {0x90, 0xbf}, tail, tail},
		{{0xf1, 0xf3}, tail, tail, tail},
		{{0xf4, 0xf4}, {0x80, 0x8f}, tail, tail},
	}
}

func fits(s string, form []between) bool {
	if len(s) < len(form) {
		return false
	}
	for i, x := range form {
		if s[i] < x.first || s[i] > x.last {
			return false
		}
	}
	return true
}

// valid takes a sign of one of the forms away from s, as long as there is one.
func valid(s string, all [][]between) bool {
	for s != "" {
		i := slices.IndexFunc(all, func(form []between) bool { return fits(s, form) })
		if i < 0 {
			return false
		}
		s = s[len(all[i]):]
	}
	return true
}

// edges are the first and the last of each length, those beside the halves of pairs, and the sign that stands for what is wrong.
func edges() []int {
	return []int{0, 1, ' ', 'a', 'z', 0x7f, 0x80, 0xe9, 0x7ff, 0x800, 0xfff, 0x1000, 0x20ac, 0xcfff, 0xd000, 0xd7ff, 0xe000, 0xfffc, 0xfffd, 0xfffe, 0xffff, 0x10000, 0x1f600, 0x3ffff, 0x40000, 0xfffff, 0x100000, 0x10ffff}
}

// wrong are texts that are none, each by one fault.
func wrong() []string {
	return []string{
		// Forms that are too long, of each length: the first and the last one.
		"\xc0\x80", "\xc0\xaf", "\xc1\xbf", "\xe0\x80\x80", "\xe0\x81\xbf", "\xe0\x82\x80", "\xe0\x9f\xbf",
		"\xf0\x80\x80\x80", "\xf0\x80\x81\xbf", "\xf0\x80\x9f\xbf", "\xf0\x80\xa0\x80", "\xf0\x8f\xbf\xbf", "\xf0\x82\x82\xac",
		// Halves of pairs, and a pair of them.
		"\xed\xa0\x80", "\xed\xaf\xbf", "\xed\xb0\x80", "\xed\xbf\xbf", "\xed\xa0\xbd\xed\xb8\x80",
		// Above 10ffff, up to what five and six bytes would hold.
		"\xf4\x90\x80\x80", "\xf4\xbf\xbf\xbf", "\xf5\x80\x80\x80", "\xf7\xbf\xbf\xbf", "\xf8\x88\x80\x80\x80", "\xfb\xbf\xbf\xbf\xbf", "\xfc\x84\x80\x80\x80\x80", "\xfd\xbf\xbf\xbf\xbf\xbf",
		// Bytes that begin nothing.
		"\x80", "\xbf", "\xfe", "\xff", "\x80\x80", "\xff\xfe",
		// What should be a further byte is none.
		"\xc3a", "\xc3\xc3\xa9", "\xe2\x82a", "\xe2a\xac", "\xe2\x82\xc3", "\xf0\x9f\x98a", "\xf0\x9fa\x80", "\xf0a\x98\x80", "\xc3\x7f", "\xc3\xc0",
	}
}

// P9.1: signs of one, two, three and four bytes, and all kinds one behind the other.
func TestTextsOfSigns(t *testing.T) {
	for _, x := range []struct {
		s string
		l []int
	}{
		{"", nil},
		{"a", []int{0x61}},
		{"aé", []int{0x61, 0xe9}}, // the chapter's example
		{"\x00", []int{0}},
		{"\x00\x7f\x00", []int{0, 0x7f, 0}},
		{"\u0080\u07ff", []int{0x80, 0x7ff}},
		{"\u0800\uffff", []int{0x800, 0xffff}},
		{"\xed\x9f\xbf\xee\x80\x80", []int{0xd7ff, 0xe000}},
		{"\xf0\x90\x80\x80\xf4\x8f\xbf\xbf", []int{0x10000, 0x10ffff}},
		{"\xef\xbf\xbd", []int{0xfffd}},
		{"a\ufffdb\ufffd", []int{0x61, 0xfffd, 0x62, 0xfffd}},
		{"\ufeffa", []int{0xfeff, 0x61}},
		{"e\u0301", []int{0x65, 0x301}},
		{"zß€\U0001f600€ßz", []int{0x7a, 0xdf, 0x20ac, 0x1f600, 0x20ac, 0xdf, 0x7a}},
	} {
		if !Valid(x.s) {
			t.Errorf("Valid(%q) is false", x.s)
		}
		if got := Signs(x.s); !slices.Equal(got, x.l) {
			t.Errorf("Signs(%q) = %x, want %x", x.s, got, x.l)
		}
		if got, e := Text(x.l); got != x.s || e != api.OK {
			t.Errorf("Text(%x) = %q, %d, want %q", x.l, got, e, x.s)
		}
	}
}

// P9.1: every code point there is, alone; those of a pair's halves are none.
func TestEachSign(t *testing.T) {
	for sign := 0; sign <= 0x10ffff; sign++ {
		s := encoded(sign)
		half := sign >= 0xd800 && sign <= 0xdfff
		if got := Valid(s); got == half {
			t.Fatalf("%x: Valid = %v", sign, got)
		}
		got, e := Text([]int{sign})
		if half {
			if l := Signs(s); len(l) != 0 || got != "" || e != api.ErrForm {
				t.Fatalf("%x: Signs = %x, Text = %q, %d", sign, l, got, e)
			}
			continue
		}
		if l := Signs(s); len(l) != 1 || l[0] != sign || got != s || e != api.OK {
			t.Fatalf("%x: Signs = %x, Text = %q, %d", sign, l, got, e)
		}
	}
}

// P9.1: texts that are none have no signs, alone or among right ones.
func TestWrongTexts(t *testing.T) {
	for _, bad := range wrong() {
		for _, s := range []string{bad, "a" + bad, bad + "a", "é" + bad + "é", "€€" + bad, bad + "\U0001f600", bad + bad, strings.Repeat("word ", 100) + bad} {
			if Valid(s) {
				t.Errorf("Valid(%q)", s)
			}
			if l := Signs(s); len(l) != 0 {
				t.Errorf("Signs(%q) = %x", s, l)
			}
		}
	}
}

// P9.1: a sign that is cut off at one of its bytes, at the end and in the midst; and one that lacks its first bytes.
func TestSignsCutOff(t *testing.T) {
	for _, sign := range edges() {
		whole := encoded(sign)
		for n := 1; n < len(whole); n++ {
			for _, part := range []string{whole[:n], whole[n:]} {
				for _, s := range []string{part, "a" + part, part + "a", part + whole, whole + part, whole + part + whole} {
					if l := Signs(s); Valid(s) || len(l) != 0 {
						t.Errorf("%x cut at %d: %q: %v, %x", sign, n, s, Valid(s), l)
					}
				}
			}
		}
	}
}

// P9.1: all texts of up to two bytes, and those of three and four whose bytes stand at the edges of the forms.
func TestShortTexts(t *testing.T) {
	all := forms()
	try := func(b ...byte) {
		s := string(b)
		want := valid(s, all)
		if got := Valid(s); got != want {
			t.Fatalf("Valid(%q) = %v, want %v", s, got, want)
		}
		l := Signs(s)
		var back strings.Builder
		for _, sign := range l {
			back.WriteString(encoded(sign))
		}
		if want && back.String() != s || !want && len(l) != 0 {
			t.Fatalf("Signs(%q) = %x", s, l)
		}
	}
	for x := range 256 {
		try(byte(x))
		for y := range 256 {
			try(byte(x), byte(y))
		}
	}
	near := []byte("\x00\x41\x7f\x80\x81\x8f\x90\x9f\xa0\xbf\xc0\xc1\xc2\xdf\xe0\xe1\xec\xed\xee\xef\xf0\xf1\xf3\xf4\xf5\xf8\xff")
	for _, a := range near {
		for _, b := range near {
			for _, c := range near {
				try(a, b, c)
				for _, d := range near {
					try(a, b, c, d)
				}
			}
		}
	}
}

// P9.1: a list with a number that is no code point has no text, wherever it stands.
func TestWrongLists(t *testing.T) {
	for _, bad := range []int{-1, -2, -0x61, -1 << 31, -1<<32 + 'a', math.MinInt, math.MinInt + 'a', 0xd800, 0xd801, 0xdbff, 0xdc00, 0xdfff, 0x110000, 0x110001, 0x200000, 1 << 31, 1<<32 - 1, 1 << 32, 1<<32 + 'a', 1 << 40, math.MaxInt} {
		for _, l := range [][]int{{bad}, {'a', bad}, {bad, 'a'}, {'a', bad, 0x10ffff}, {bad, bad}, append(edges(), bad), append([]int{bad}, edges()...)} {
			if s, e := Text(l); s != "" || e != api.ErrForm {
				t.Errorf("Text(%x) = %q, %d", l, s, e)
			}
		}
	}
	if s, e := Text([]int{0xd83d, 0xde00}); s != "" || e != api.ErrForm {
		t.Errorf("a pair of halves: %q, %d", s, e)
	}
}

// P9.1: nil and an empty list are one: the empty text, which is valid, and has no signs.
func TestNothing(t *testing.T) {
	for _, l := range [][]int{nil, {}, make([]int, 0, 8)} {
		if s, e := Text(l); s != "" || e != api.OK {
			t.Errorf("Text of none = %q, %d", s, e)
		}
	}
	if !Valid("") || len(Signs("")) != 0 {
		t.Errorf("the empty text: %v, %x", Valid(""), Signs(""))
	}
}

// P9.1: Text leaves its list as it is, and each Signs is a list of its own, its spare room too.
func TestListsOfTheirOwn(t *testing.T) {
	room := append(edges(), 1, 2, 3)
	want := slices.Clone(room)
	if _, e := Text(room[:len(room)-3]); e != api.OK || !slices.Equal(room, want) {
		t.Errorf("Text changed its list: %x, %d", room, e)
	}
	s := "aé€\U0001f600"
	one, two := Signs(s), Signs(s)
	for i := range one[:cap(one)] {
		one[:cap(one)][i] = -1
	}
	if !slices.Equal(two, []int{0x61, 0xe9, 0x20ac, 0x1f600}) || s != "aé€\U0001f600" {
		t.Errorf("two lists share memory: %x", two)
	}
}

// P9.2: the letters are those from a to z and from A to Z, and no other sign; Lower changes the great ones alone.
func TestLetters(t *testing.T) {
	const small, great = "abcdefghijklmnopqrstuvwxyz", "ABCDEFGHIJKLMNOPQRSTUVWXYZ"
	for sign := -300; sign <= 0x110000; sign++ {
		isLetter, low := false, sign
		if sign >= 0 && sign < 0x80 {
			isLetter = bytes.IndexByte([]byte(small+great), byte(sign)) >= 0
			if i := strings.IndexByte(great, byte(sign)); i >= 0 {
				low = int(small[i])
			}
		}
		if got := Letter(sign); got != isLetter {
			t.Fatalf("Letter(%x) = %v", sign, got)
		}
		if got := Lower(sign); got != low {
			t.Fatalf("Lower(%x) = %x, want %x", sign, got, low)
		}
	}
}

// P9.2: the signs next to the letters, and any int whose last bits are a letter's.
func TestNoLetters(t *testing.T) {
	for _, sign := range []int{'a' - 1, 'z' + 1, 'A' - 1, 'Z' + 1, 'a' + 0x80, 'A' + 0x100, 'A' + 1<<16, 'A' + 1<<32, 'a' + 1<<32, -'A', 'A' - 1<<32, 0xc0, 0xe9, 0xdf, 0x130, 0x212a, 0x17f, 0x391, 0xff21, 0xff41, 0xd800, 0x110000, math.MinInt, math.MinInt + 'A', math.MaxInt} {
		if Letter(sign) {
			t.Errorf("Letter(%x)", sign)
		}
		if got := Lower(sign); got != sign {
			t.Errorf("Lower(%x) = %x", sign, got)
		}
	}
}

// P9.3: Text of Signs is the text, and Signs of Text is the list: for each two edges, and for all of them in a row.
func TestThereAndBack(t *testing.T) {
	try := func(l []int) {
		var b strings.Builder
		for _, sign := range l {
			b.WriteString(encoded(sign))
		}
		s := b.String()
		if got := Signs(s); !Valid(s) || !slices.Equal(got, l) {
			t.Fatalf("Signs(%q) = %x, want %x", s, got, l)
		}
		if got, e := Text(Signs(s)); got != s || e != api.OK {
			t.Fatalf("Text(Signs(%q)) = %q, %d", s, got, e)
		}
	}
	for _, a := range edges() {
		for _, b := range edges() {
			try([]int{a, b})
			try([]int{b, a, b})
		}
	}
	var all []int
	for range 50 {
		all = append(all, edges()...)
		try(all)
	}
}

// P9.3: what is told of a text ends where nobody asks for more.
func TestSignsStop(t *testing.T) {
	for n := 1; n <= 4; n++ {
		var got []int
		for sign, ok := range signs("aé€\xff\xff") {
			if !ok {
				sign = -1
			}
			if got = append(got, sign); len(got) == n {
				break
			}
		}
		if want := []int{0x61, 0xe9, 0x20ac, -1}[:n]; !slices.Equal(got, want) {
			t.Errorf("the first %d: %x, want %x", n, got, want)
		}
	}
	n := 0
	for range signs("a\xff\xff") {
		n++
	}
	if n != 2 {
		t.Errorf("told %d times", n)
	}
}
