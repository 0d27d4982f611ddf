package metric

import (
	"math"
	"slices"
	"strings"
	"testing"

	"codex/utf"
)

// rows are how wide the signs from 20 to 7f are, sixteen a row; x stands for ten.
func rows() string {
	return "x346666344663436" + // space ! " # $ % & ' ( ) * + , - . /
		"6666666666336666" + // 0 to 9 : ; < = > ?
		"9777777777777977" + // @ A to O
		"7777777977746466" + // P to Z [ \ ] ^ _
		"6666664663363966" + // ` a to o
		"664646696666366x" // p to z { | } ~ 7f
}

// wide reads a sign's width off the rows.
func wide(sign int) int {
	if sign < 0x20 || sign > 0x7f || rows()[sign-0x20] == 'x' {
		return 10
	}
	return int(rows()[sign-0x20] - '0')
}

// texts are valid ones: of signs of one, two, three and four bytes, of each width, and those that look like something else when they are cut.
func texts() []string {
	return []string{
		"", "a", " ", "i", "f", "m", "A", "\x00", "\x7f", "~", "!", "|", "mail", "MAIL", "a b", "it's", "(\"@\")", "well-known.",
		"\u0080", "é", "\u07ff", "\u0800", "€", "\ufffd", "\uffff", "\U00010000", "\U0001f600", "\U0010ffff",
		"e\u0301", "naïve", "zß€\U0001f600€ßz", "\ufeffmail", "a\r\n\tb", "\u2026...", "\u00ad-",
		strings.Repeat("quick brown fox; ", 40),
	}
}

// wrong are texts that are none, each by one fault.
func wrong() []string {
	return []string{"\x80", "\xbf", "\xc3", "\xa9", "\xff", "\xe2\x82", "\x82\xac", "\xf0\x9f\x98", "\x9f\x98\x80", "\xc0\x80", "\xc1\xa9", "\xe0\x81\xa9", "\xed\xa0\x80", "\xed\xbf\xbf", "\xf0\x80\x80\xa9", "\xf4\x90\x80\x80", "\xf8\x88\x80\x80\x80"}
}

// P10.1: the signs from 0 to ff, each by itself.
func TestEachSign(t *testing.T) {
	for sign := 0; sign <= 0xff; sign++ {
		if got, want := Sign(sign), wide(sign); got != want {
			t.Errorf("Sign(%x) = %d, want %d", sign, got, want)
		}
	}
}

// P10.1: the lists of the chapter, sign by sign, and how many there are of each width.
func TestWidths(t *testing.T) {
	count := map[int]int{}
	for sign := 0x21; sign <= 0x7e; sign++ {
		count[Sign(sign)]++
	}
	for _, x := range []struct {
		width, many int
		signs       string
	}{
		{3, 10, "ijl.,;:!|'"},
		{4, 9, "ftr()[]-\""},
		{9, 5, "mwMW@"},
		{7, 24, "ABCDEFGHIJKLNOPQRSTUVXYZ"},
		{6, 46, "abcdeghknopqsuvxyz0123456789#$%&*+/<=>?\\^_`{}~"},
		{10, 0, " \x00\t\n\r\x1f\x7f"},
	} {
		for _, sign := range []byte(x.signs) {
			if got := Sign(int(sign)); got != x.width {
				t.Errorf("Sign of %q = %d, want %d", sign, got, x.width)
			}
		}
		if count[x.width] != x.many {
			t.Errorf("%d signs from 21 to 7e are %d wide, want %d", count[x.width], x.width, x.many)
		}
	}
}

// P10.1: 20, 21, 7e and 7f, the edges of those that have widths of their own.
func TestEdges(t *testing.T) {
	for _, x := range [][2]int{{0x1f, 10}, {0x20, 10}, {0x21, 3}, {0x22, 4}, {0x7d, 6}, {0x7e, 6}, {0x7f, 10}, {0x80, 10}, {'A' - 1, 9}, {'A', 7}, {'Z', 7}, {'Z' + 1, 4}} {
		if got := Sign(x[0]); got != x[1] {
			t.Errorf("Sign(%x) = %d, want %d", x[0], got, x[1])
		}
	}
}

// P10.1: every code point above 7e is 10, those that look like narrow ones, too.
func TestSignsAbove(t *testing.T) {
	for sign := 0x7f; sign <= 0x10ffff; sign++ {
		if got := Sign(sign); got != 10 {
			t.Fatalf("Sign(%x) = %d", sign, got)
		}
	}
}

// P10.1: numbers that are no signs are 10, and if their last bits are a sign's.
func TestNoSigns(t *testing.T) {
	for _, far := range []int{math.MinInt, math.MinInt + 1, -1 << 32, -1 << 31, -1 << 16, -1 << 8, -256 * 3, -128, 0xd800, 0xdf00, 0x110000, 1 << 24, 1 << 31, 1<<32 - 256, 1 << 32, 1 << 40, math.MaxInt - 255} {
		for near := range 256 {
			sign := far + near
			if sign >= 0 && sign < 0x7f {
				continue
			}
			if got := Sign(sign); got != 10 {
				t.Fatalf("Sign(%d) = %d", sign, got)
			}
		}
	}
	for _, sign := range []int{-1, -'i', -'m', -'A', -'a', math.MinInt, math.MaxInt} {
		if got := Sign(sign); got != 10 {
			t.Errorf("Sign(%d) = %d", sign, got)
		}
	}
}

// P10.2: texts whose widths are worked out by hand.
func TestTextsByHand(t *testing.T) {
	for _, x := range []struct {
		s    string
		want int
	}{
		{"mail", 21}, // the chapter's example
		{"", 0},
		{" ", 10},
		{"a b", 22},
		{"MW@mw", 45},
		{"ijl.,;:!|'", 30},
		{"ftr()[]-\"", 36},
		{"AZ", 14},
		{"Hello, world!", 7 + 6 + 3 + 3 + 6 + 3 + 10 + 9 + 6 + 4 + 3 + 6 + 3},
		{"\x00\n\x7f", 30},
		{"é", 10},
		{"€", 10},
		{"\U0001f600", 10},
		{"\ufffd", 10},
		{"aé€\U0001f600i", 39},
		{"e\u0301", 16},
		{"\ufeffi", 13},
	} {
		if got := Text(x.s); got != x.want {
			t.Errorf("Text(%q) = %d, want %d", x.s, got, x.want)
		}
	}
}

// P10.2: a text is as wide as all its signs, one sign or many.
func TestTextOfSigns(t *testing.T) {
	for _, s := range texts() {
		want := 0
		for _, sign := range s {
			want += wide(int(sign))
		}
		if got := Text(s); got != want {
			t.Errorf("Text(%q) = %d, want %d", s, got, want)
		}
	}
	for _, sign := range []int{0, 0x20, 0x21, 'a', 'm', 0x7e, 0x7f, 0x80, 0xff, 0x7ff, 0x800, 0xd7ff, 0xe000, 0xffff, 0x10000, 0x10ffff} {
		s, _ := utf.Text([]int{sign})
		for n := range 30 {
			if got := Text(strings.Repeat(s, n)); got != n*wide(sign) {
				t.Errorf("%d times %x: %d", n, sign, got)
			}
		}
	}
}

// P10.2: a long text, whose width is above what 16 bits and a lesser number of signs would hold.
func TestLongText(t *testing.T) {
	if got := Text(strings.Repeat("@é", 1<<18)); got != 19<<18 {
		t.Errorf("%d", got)
	}
}

// P10.2: a text that is not valid has no signs, so that it is 0 wide, wherever its fault stands.
func TestWrongTexts(t *testing.T) {
	for _, bad := range wrong() {
		for _, s := range []string{bad, "a" + bad, bad + "a", "mail" + bad + "mail", "é" + bad, bad + "é", "\U0001f600" + bad + "€", strings.Repeat("word ", 100) + bad} {
			if got := Text(s); got != 0 {
				t.Errorf("Text(%q) = %d", s, got)
			}
		}
	}
}

// P10.3: each two texts one behind the other, three of them, and a text cut at each of its signs.
func TestTextsTogether(t *testing.T) {
	for _, a := range texts() {
		for _, b := range texts() {
			if got, want := Text(a+b), Text(a)+Text(b); got != want {
				t.Errorf("%q and %q: %d, want %d", a, b, got, want)
			}
			if got, want := Text(a+b+a), Text(a)+Text(b)+Text(a); got != want {
				t.Errorf("%q, %q and the first again: %d, want %d", a, b, got, want)
			}
		}
		for i := range a {
			if got, want := Text(a[:i])+Text(a[i:]), Text(a); got != want {
				t.Errorf("%q cut at %d: %d, want %d", a, i, got, want)
			}
		}
	}
}

// P10.3: of each two signs from 0 to ff, neither changes how wide the other is.
func TestSignsTogether(t *testing.T) {
	for a := range 256 {
		for b := range 256 {
			s, _ := utf.Text([]int{a, b})
			if got, want := Text(s), wide(a)+wide(b); got != want {
				t.Fatalf("%x and %x: %d, want %d", a, b, got, want)
			}
		}
	}
}

// P10.3: what is summed is each of a list, once, in its order, whatever it is a list of; of none it is 0.
func TestTogether(t *testing.T) {
	var asked []string
	long := func(s string) int {
		asked = append(asked, s)
		return len(s)
	}
	l := []string{"a", "", "abc", "a"}
	if got := together(l, long); got != 5 || !slices.Equal(asked, l) {
		t.Errorf("%d, asked of %q", got, asked)
	}
	if got := together(nil, Sign) + together([]int{}, Sign); got != 0 {
		t.Errorf("nothing is %d wide", got)
	}
}
