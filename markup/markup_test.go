package markup

import (
	"math"
	"reflect"
	"slices"
	"strings"
	"testing"

	"codex/api"
)

func text(words ...string) api.Part    { return api.Part{Kind: api.Text, Words: words} }
func heading(words ...string) api.Part { return api.Part{Kind: api.Heading, Words: words} }
func point(words ...string) api.Part   { return api.Part{Kind: api.Point, Words: words} }
func eject(words ...string) api.Part   { return api.Part{Kind: api.Eject, Words: words} }

// same holds parts against each other; nil and empty lists are one.
func same(a, b []api.Part) bool {
	return slices.EqualFunc(a, b, func(x, y api.Part) bool {
		return x.Kind == y.Kind && slices.Equal(x.Words, y.Words)
	})
}

func copied(l []api.Part) []api.Part {
	l = slices.Clone(l)
	for i := range l {
		l[i].Words = slices.Clone(l[i].Words)
	}
	return l
}

// plainWords goes through a line from its end, byte by byte.
func plainWords(line string) []string {
	var l []string
	for i := len(line) - 1; i >= 0; i-- {
		switch {
		case line[i] == ' ':
		case i+1 < len(line) && line[i+1] != ' ':
			l[0] = line[i:i+1] + l[0]
		default:
			l = slices.Insert(l, 0, line[i:i+1])
		}
	}
	return l
}

// plainParse is the chapter's words for a source of ASCII, with a mark of its own for what ends a Text.
func plainParse(s string) ([]api.Part, api.Errno) {
	const end = 9
	if len(s) > 240 {
		return nil, api.ErrLarge
	}
	for i := range len(s) {
		if s[i] != '\n' && s[i] < 0x20 || s[i] == 0x7f {
			return nil, api.ErrParse
		}
	}
	var l []api.Part
	for _, line := range strings.Split(s, "\n") {
		words := plainWords(line)
		switch {
		case line == "---":
			l = append(l, eject())
		case len(line) > 1 && line[0] == '=' && line[1] == ' ':
			l = append(l, heading(words[1:]...))
		case len(line) > 1 && line[0] == '-' && line[1] == ' ':
			l = append(l, point(words[1:]...))
		case len(words) == 0:
			l = append(l, api.Part{Kind: end})
		case len(l) > 0 && l[len(l)-1].Kind == api.Text:
			l[len(l)-1] = text(slices.Concat(l[len(l)-1].Words, words)...)
		default:
			l = append(l, text(words...))
		}
	}
	l = slices.DeleteFunc(l, func(p api.Part) bool { return p.Kind == end })
	if slices.ContainsFunc(l, func(p api.Part) bool { return p.Kind != api.Eject && len(p.Words) == 0 }) {
		return nil, api.ErrParse
	}
	return l, api.OK
}

// plainSource is what P11.2 says of it, as far as the parts may be.
func plainSource(l []api.Part) string {
	var lines []string
	for _, p := range l {
		line := map[int]string{1: "", 2: "=", 3: "-", 4: "---"}[p.Kind]
		for _, w := range p.Words {
			line += " " + w
		}
		if p.Kind == api.Text {
			line = line[1:]
		}
		lines = append(lines, line)
	}
	return strings.Join(lines, "\n\n")
}

// plainPart is what P11.2 asks of a part whose words all may be.
func plainPart(p api.Part) bool {
	n := len(p.Words)
	switch p.Kind {
	case 1:
		alone := n == 1 && p.Words[0] == "---"
		marked := n > 1 && (p.Words[0] == "=" || p.Words[0] == "-")
		return n >= 1 && !alone && !marked
	case 2, 3:
		return n >= 1
	case 4:
		return n == 0
	}
	return false
}

// each tells all lists of up to most of the given ones.
func each[E any](all []E, most int, do func([]E)) {
	var from func(l []E)
	from = func(l []E) {
		do(slices.Clone(l))
		if len(l) == most {
			return
		}
		for _, x := range all {
			from(append(l, x))
		}
	}
	from(nil)
}

// wrongTexts are no UTF-8, each by one fault.
func wrongTexts() []string {
	return []string{"\x80", "\xbf", "\xc3", "\xa9", "\xff", "\xfe", "\xe2\x82", "\xf0\x9f\x98", "\xc0\x80", "\xc0\xa0", "\xc1\xa9", "\xe0\x81\xa9", "\xed\xa0\x80", "\xed\xbf\xbf", "\xf0\x80\x80\xa9", "\xf4\x90\x80\x80", "\xf8\x88\x80\x80\x80"}
}

// P11.1: lines of each kind, alone and one behind the other.
func TestParts(t *testing.T) {
	for _, x := range []struct {
		s string
		l []api.Part
	}{
		{"= A\n\nb c", []api.Part{heading("A"), text("b", "c")}}, // the chapter's example
		{"", nil},
		{" ", nil},
		{"\n", nil},
		{"  \n\n \n   ", nil},
		{"a", []api.Part{text("a")}},
		{"  a  ", []api.Part{text("a")}},
		{"\n\na\n\n", []api.Part{text("a")}},
		{" a   b  c ", []api.Part{text("a", "b", "c")}},
		{"= a   b  c ", []api.Part{heading("a", "b", "c")}},
		{"-   a   b  c ", []api.Part{point("a", "b", "c")}},
		// A Text goes on over lines, till one of no words, or of another kind.
		{"a\nb c\nd", []api.Part{text("a", "b", "c", "d")}},
		{"a \n b", []api.Part{text("a", "b")}},
		{"a\n\nb", []api.Part{text("a"), text("b")}},
		{"a\n   \nb", []api.Part{text("a"), text("b")}},
		{"a\n\n\n\nb", []api.Part{text("a"), text("b")}},
		{"a\n= b\nc", []api.Part{text("a"), heading("b"), text("c")}},
		{"a\n- b\nc", []api.Part{text("a"), point("b"), text("c")}},
		{"a\n---\nc", []api.Part{text("a"), eject(), text("c")}},
		// All others stand each by itself, whatever is between.
		{"= a\n= b", []api.Part{heading("a"), heading("b")}},
		{"- a\n- b\n\n- c", []api.Part{point("a"), point("b"), point("c")}},
		{"---\n---\n\n---", []api.Part{eject(), eject(), eject()}},
		{"- a\nb\nc\n- d", []api.Part{point("a"), text("b", "c"), point("d")}},
		// An Eject is just its line.
		{"---", []api.Part{eject()}},
		{"\n---\n", []api.Part{eject()}},
		{" ---", []api.Part{text("---")}},
		{"--- ", []api.Part{text("---")}},
		{"--- a", []api.Part{text("---", "a")}},
		{"a ---", []api.Part{text("a", "---")}},
		{"---a", []api.Part{text("---a")}},
		{"--", []api.Part{text("--")}},
		{"----", []api.Part{text("----")}},
		{"---\n ---\n--- ", []api.Part{eject(), text("---", "---")}},
		{"= ---", []api.Part{heading("---")}},
		{"- ---", []api.Part{point("---")}},
		// A Heading's or a Point's line begins with the mark and a blank.
		{"=", []api.Part{text("=")}},
		{"-", []api.Part{text("-")}},
		{"-\n=", []api.Part{text("-", "=")}},
		{" = a", []api.Part{text("=", "a")}},
		{" - a", []api.Part{text("-", "a")}},
		{" =", []api.Part{text("=")}},
		{"=a\n-b", []api.Part{text("=a", "-b")}},
		{"== a\n-- b", []api.Part{text("==", "a", "--", "b")}},
		{"a = b - c", []api.Part{text("a", "=", "b", "-", "c")}},
		{"= =", []api.Part{heading("=")}},
		{"= - a", []api.Part{heading("-", "a")}},
		{"- = a", []api.Part{point("=", "a")}},
		{"- - -", []api.Part{point("-", "-")}},
		// Signs of two, three and four bytes; those from 80 on aren't blanks, whatever they look like.
		{"é €\n\U0001f600", []api.Part{text("é", "€", "\U0001f600")}},
		{"= Ü  \U0010ffff", []api.Part{heading("Ü", "\U0010ffff")}},
		{"a\u00a0b \u0080 \u0085\u2028", []api.Part{text("a\u00a0b", "\u0080", "\u0085\u2028")}},
		{"\u3000\n\ufeff= a", []api.Part{text("\u3000", "\ufeff=", "a")}},
		{"\ufffd", []api.Part{text("\ufffd")}},
		{"=\u00a0a\n-\u2003b", []api.Part{text("=\u00a0a", "-\u2003b")}},
	} {
		l, e := Parse(x.s)
		if e != api.OK || !same(l, x.l) {
			t.Errorf("Parse(%q) = %v, %d, want %v", x.s, l, e, x.l)
		}
	}
}

// P11.1: a Heading or a Point without a word, at each place of a source.
func TestMarksWithoutWords(t *testing.T) {
	for _, mark := range []string{"= ", "- ", "=  ", "-     "} {
		for _, ahead := range []string{"", "a\n", "= a\n\n", "---\n"} {
			for _, behind := range []string{"", "\n", "\nb", "\n\nb", "\n- b"} {
				s := ahead + mark + behind
				if l, e := Parse(s); e != api.ErrParse || len(l) != 0 {
					t.Errorf("Parse(%q) = %v, %d", s, l, e)
				}
			}
		}
	}
}

// P11.1: each sign below 100, at a source's beginning, middle and end, and in a Heading.
func TestSignsOfSources(t *testing.T) {
	for sign := rune(0); sign < 0x100; sign++ {
		want := api.OK
		if sign < 0x20 && sign != 0x0a || sign == 0x7f {
			want = api.ErrParse
		}
		w := string(sign)
		for _, s := range []string{w, w + "a", "a" + w, "a" + w + "b", "= a" + w + "b", "---\n" + w} {
			if l, e := Parse(s); e != want || e != api.OK && len(l) != 0 {
				t.Errorf("Parse(%q) = %v, %d, want %d", s, l, e, want)
			}
		}
	}
}

// P11.1: a source that isn't valid, by each fault, at its beginning, middle and end.
func TestSourcesNotValid(t *testing.T) {
	for _, w := range wrongTexts() {
		for _, s := range []string{w, w + " a", "a " + w, "a " + w + " b", "= a" + w, "---\n" + w} {
			if l, e := Parse(s); e != api.ErrParse || len(l) != 0 {
				t.Errorf("Parse(%q) = %v, %d", s, l, e)
			}
		}
	}
}

// P11.1: MaxSource bytes, and one more; ErrLarge comes ahead of ErrParse.
func TestLargeSources(t *testing.T) {
	for _, x := range []struct {
		s    string
		want api.Errno
	}{
		{strings.Repeat("a", 240), api.OK},
		{strings.Repeat("a", 241), api.ErrLarge},
		{strings.Repeat(" ", 240), api.OK},
		{strings.Repeat(" ", 241), api.ErrLarge},
		{strings.Repeat("\n", 241), api.ErrLarge},
		{strings.Repeat("€", 80), api.OK},
		{strings.Repeat("€", 81), api.ErrLarge},
		{strings.Repeat("\U0001f600", 60) + "\n", api.ErrLarge},
		{strings.Repeat("\xff", 240), api.ErrParse},
		{strings.Repeat("\xff", 241), api.ErrLarge},
		{strings.Repeat("\t", 241), api.ErrLarge},
		{"= " + strings.Repeat(" ", 238), api.ErrParse},
		{"= " + strings.Repeat(" ", 239), api.ErrLarge},
		{strings.Repeat("a", 1<<20), api.ErrLarge},
	} {
		if l, e := Parse(x.s); e != x.want || e != api.OK && len(l) != 0 {
			t.Errorf("Parse of %d bytes, %.8q ..: %d parts, %d, want %d", len(x.s), x.s, len(l), e, x.want)
		}
	}
	l, e := Parse(strings.Repeat("- a\n", 60))
	if e != api.OK || len(l) != 60 {
		t.Errorf("60 points: %d, %d", len(l), e)
	}
	l, e = Parse(strings.Repeat("a ", 120))
	if e != api.OK || len(l) != 1 || len(l[0].Words) != 120 {
		t.Errorf("120 words: %v, %d", l, e)
	}
}

// P11.1: every source of up to seven of the signs that count, and one that doesn't.
func TestAllShortSources(t *testing.T) {
	each([]byte("a=- \n"), 7, func(b []byte) {
		s := string(b)
		l, e := Parse(s)
		want, wanted := plainParse(s)
		if e != wanted || !same(l, want) {
			t.Fatalf("Parse(%q) = %v, %d, want %v, %d", s, l, e, want, wanted)
		}
	})
	each([]byte("a= \n\t\x7f"), 4, func(b []byte) {
		s := string(b)
		l, e := Parse(s)
		want, wanted := plainParse(s)
		if e != wanted || !same(l, want) {
			t.Fatalf("Parse(%q) = %v, %d, want %v, %d", s, l, e, want, wanted)
		}
	})
}

// P11.1: the words of a line, whatever bytes it is of; only blanks part them.
func TestWordsOfLines(t *testing.T) {
	for _, x := range []struct {
		line string
		l    []string
	}{
		{"", nil},
		{" ", nil},
		{"    ", nil},
		{"a", []string{"a"}},
		{" a", []string{"a"}},
		{"a ", []string{"a"}},
		{"  a   bc ", []string{"a", "bc"}},
		{"= a", []string{"=", "a"}},
		{"---", []string{"---"}},
		{"a\nb", []string{"a\nb"}},
		{"\n", []string{"\n"}},
		{"a\tb\x00 \x7f\r", []string{"a\tb\x00", "\x7f\r"}},
		{"\xff \xc3 \xa9", []string{"\xff", "\xc3", "\xa9"}},
		{"é\u00a0€ \U0001f600", []string{"é\u00a0€", "\U0001f600"}},
		{"\u2003\u3000", []string{"\u2003\u3000"}},
		{strings.Repeat("ab ", 1000), slices.Repeat([]string{"ab"}, 1000)},
	} {
		if l := Words(x.line); !slices.Equal(l, x.l) {
			t.Errorf("Words(%q) = %q, want %q", x.line, l, x.l)
		}
	}
	each([]byte("ab \n\xa0"), 6, func(b []byte) {
		if l, want := Words(string(b)), plainWords(string(b)); !slices.Equal(l, want) {
			t.Fatalf("Words(%q) = %q, want %q", b, l, want)
		}
	})
}

// P11.2: all parts of up to three words, of each kind and of none.
func TestGoodParts(t *testing.T) {
	kinds := []int{math.MinInt, -1, 0, 1, 2, 3, 4, 5, 6, 257, 258, 260, math.MaxInt}
	each([]string{"a", "=", "-", "---", "--", "==", "=a", "€"}, 3, func(words []string) {
		for _, kind := range kinds {
			p := api.Part{Kind: kind, Words: words}
			want := plainPart(p)
			if Good([]api.Part{p}) != want {
				t.Errorf("Good(%d, %q) = %v", kind, words, !want)
			}
			s, e := Source([]api.Part{p})
			if want && (e != api.OK || s != plainSource([]api.Part{p})) || !want && (e != api.ErrForm || s != "") {
				t.Errorf("Source(%d, %q) = %q, %d", kind, words, s, e)
			}
		}
	})
}

// P11.2: each sign below 100 in a word, at its beginning, middle and end, of each part that has words.
func TestSignsOfWords(t *testing.T) {
	for sign := rune(0); sign < 0x100; sign++ {
		want := sign > 0x20 && sign != 0x7f
		x := string(sign)
		for _, w := range []string{x, x + "b", "b" + x, "b" + x + "b"} {
			for _, p := range []api.Part{text(w), text("a", w), text("a", w, "c"), heading(w), heading("a", w), point(w), point(w, "a")} {
				if Good([]api.Part{p}) != want {
					t.Errorf("Good(%d, %q) = %v", p.Kind, p.Words, !want)
				}
				if s, e := Source([]api.Part{p}); want != (e == api.OK) || !want && (e != api.ErrForm || s != "") {
					t.Errorf("Source(%d, %q) = %q, %d", p.Kind, p.Words, s, e)
				}
			}
		}
	}
}

// P11.2: words that are empty or not valid, at each place, alone and between parts that may be.
func TestWrongWords(t *testing.T) {
	for _, w := range append(wrongTexts(), "", " ", "\n", "a b", "a\nb", "a\tb") {
		for _, p := range []api.Part{text(w), text("a", w), text(w, "a"), heading(w), heading("a", w, "b"), point(w), point("a", w), eject(w)} {
			for _, l := range [][]api.Part{{p}, {p, text("a")}, {eject(), p}, {heading("a"), p, eject()}} {
				if Good(l) {
					t.Errorf("Good(%v)", l)
				}
				if s, e := Source(l); e != api.ErrForm || s != "" {
					t.Errorf("Source(%v) = %q, %d", l, s, e)
				}
			}
		}
	}
	for _, w := range wrongTexts() {
		if p := text("a" + w + "b"); Good([]api.Part{p}) {
			t.Errorf("Good(%v)", p)
		}
	}
}

// P11.2: no parts, several ones, and one that may not be at each place.
func TestSources(t *testing.T) {
	for _, x := range []struct {
		l []api.Part
		s string
	}{
		{nil, ""},
		{[]api.Part{}, ""},
		{[]api.Part{text("a")}, "a"},
		{[]api.Part{heading("A"), text("b", "c")}, "= A\n\nb c"},
		{[]api.Part{text("a", "b"), text("c")}, "a b\n\nc"},
		{[]api.Part{point("a", "b"), point("-"), eject(), eject()}, "- a b\n\n- -\n\n---\n\n---"},
		{[]api.Part{{Kind: api.Eject, Words: []string{}}}, "---"},
		{[]api.Part{text("="), text("-"), text("---", "a"), heading("---")}, "=\n\n-\n\n--- a\n\n= ---"},
		{[]api.Part{heading("é"), text("€", "\U0001f600", "a\u00a0b")}, "= é\n\n€ \U0001f600 a\u00a0b"},
	} {
		if s, e := Source(x.l); e != api.OK || s != x.s || !Good(x.l) {
			t.Errorf("Source(%v) = %q, %d, want %q", x.l, s, e, x.s)
		}
	}
	all := []api.Part{heading("A"), text("b", "c"), point("d"), eject(), text("e")}
	for _, wrong := range []api.Part{{}, text(), heading(), point(), eject("a"), eject(""), text("---"), text("=", "a"), text("-", "-"), {Kind: 5, Words: []string{"a"}}, {Kind: -1}} {
		for i := range len(all) + 1 {
			l := slices.Insert(slices.Clone(all), i, wrong)
			if s, e := Source(l); Good(l) || e != api.ErrForm || s != "" {
				t.Errorf("Source(%v) = %q, %d", l, s, e)
			}
		}
	}
}

// P11.2: parts whose source has MaxSource bytes, and one more; Good doesn't ask for that.
func TestLargeParts(t *testing.T) {
	long := func(n int) string { return strings.Repeat("a", n) }
	for _, x := range []struct {
		l []api.Part
		n int
	}{
		{[]api.Part{text(long(240))}, 240},
		{[]api.Part{text(long(241))}, 241},
		{[]api.Part{text(long(120), long(119))}, 240},
		{[]api.Part{text(long(120), long(120))}, 241},
		{[]api.Part{heading(long(238))}, 240},
		{[]api.Part{heading(long(239))}, 241},
		{[]api.Part{point(long(238))}, 240},
		{[]api.Part{point(long(239))}, 241},
		{[]api.Part{eject(), text(long(235))}, 240},
		{[]api.Part{eject(), text(long(236))}, 241},
		{[]api.Part{text(long(235)), eject()}, 240},
		{[]api.Part{text(long(236)), eject()}, 241},
		{[]api.Part{text(long(241)), eject()}, 246},
		{[]api.Part{text(strings.Repeat("€", 80))}, 240},
		{[]api.Part{text(strings.Repeat("€", 80) + "b")}, 241},
		{append(slices.Repeat([]api.Part{eject()}, 47), text(long(5))), 240},
		{append(slices.Repeat([]api.Part{eject()}, 47), text(long(6))), 241},
		{slices.Repeat([]api.Part{eject()}, 49), 243},
		{slices.Repeat([]api.Part{text("a")}, 80), 238},
		{slices.Repeat([]api.Part{text("a")}, 81), 241},
		{[]api.Part{text(slices.Repeat([]string{"a"}, 1<<18)...)}, 1<<19 - 1},
		{slices.Repeat([]api.Part{text("a")}, 1<<18), 3<<18 - 2},
	} {
		if !Good(x.l) {
			t.Errorf("parts of %d bytes aren't good", x.n)
		}
		s, e := Source(x.l)
		if x.n <= 240 && (e != api.OK || len(s) != x.n || s != plainSource(x.l)) {
			t.Errorf("parts of %d bytes: %q, %d", x.n, s, e)
		}
		if x.n > 240 && (e != api.ErrForm || s != "") {
			t.Errorf("parts of %d bytes: %d bytes, %d", x.n, len(s), e)
		}
	}
}

// P11.3: Parse of Source, for all lists of up to four parts that may be.
func TestParseOfSource(t *testing.T) {
	all := []api.Part{text("a"), text("b", "---"), text("="), text("-"), text("---", "="), text("=-", "-"), heading("="), heading("---", "é"), point("-"), point("a", "b"), eject()}
	each(all, 4, func(l []api.Part) {
		s, e := Source(l)
		if e != api.OK || s != plainSource(l) {
			t.Fatalf("Source(%v) = %q, %d", l, s, e)
		}
		if m, e := Parse(s); e != api.OK || !same(m, l) {
			t.Fatalf("Parse(Source(%v)) = %v, %d", l, m, e)
		}
	})
}

// P11.3: the parts of any source that Parse takes, if they may be, are the parts of their Source, too.
func TestSourceOfParse(t *testing.T) {
	each([]byte("a=- \n"), 7, func(b []byte) {
		l, e := Parse(string(b))
		if e != api.OK || !Good(l) {
			return
		}
		s, e := Source(l)
		if m, f := Parse(s); e != api.OK || f != api.OK || !same(m, l) {
			t.Fatalf("%q: Parse(%q) = %v, %d, want %v", b, s, m, f, l)
		}
	})
}

// P11.1, P11.2: parts that are handed in stay as they are, behind them too.
func TestPartsStay(t *testing.T) {
	room := []string{"x", "y", "spare", "spare"}
	all := []api.Part{heading(room[:2]...), eject(), text("a"), text("spare", "spare")}
	before := copied(all)
	for _, l := range [][]api.Part{all[:2], all[:3], append(all[:3:3], text("---")), append(all[:3:3], text(strings.Repeat("a", 241)))} {
		Good(l)
		Source(l)
	}
	if !reflect.DeepEqual(all, before) || !slices.Equal(room, []string{"x", "y", "spare", "spare"}) {
		t.Errorf("written into: %v, %q", all, room)
	}
}

// P11.1: each answer is new, and no two of its lists share memory, their spare room too.
func TestPartsAreNew(t *testing.T) {
	const s = "= a b c\n- d e f\n- g\nh i j\nk\n\nl m n\n---\n---"
	want, _ := plainParse(s)
	first, _ := Parse(s)
	second, _ := Parse(s)
	for i := range first {
		fill := first[i].Words[:cap(first[i].Words)]
		for j := range fill {
			fill[j] = "other"
		}
		for j := range first {
			if j > i && !slices.Equal(first[j].Words, want[j].Words) {
				t.Errorf("the words of part %d share memory with those of part %d", i, j)
			}
		}
		want[i].Words = slices.Repeat([]string{"other"}, len(want[i].Words))
		if !same(first, want) {
			t.Errorf("the words of part %d share memory with others: %v", i, first)
		}
	}
	clear(first[:cap(first)])
	if want, _ := plainParse(s); !same(second, want) {
		t.Errorf("two answers share memory: %v", second)
	}
	one, two := Words("a b c"), Words("a b c")
	clear(one[:cap(one)])
	if !slices.Equal(two, []string{"a", "b", "c"}) {
		t.Errorf("two lists share memory: %q", two)
	}
}

// P11.1: who ranges over lines or words may stop at any one of them.
func TestRangesStop(t *testing.T) {
	for n := 1; n <= 3; n++ {
		var l []string
		for w := range words("  a b  c ") {
			if l = append(l, w); len(l) == n {
				break
			}
		}
		if !slices.Equal(l, []string{"a", "b", "c"}[:n]) {
			t.Errorf("the first %d words are %q", n, l)
		}
		l = nil
		for line := range lines("a\n\n b\nc") {
			if l = append(l, line); len(l) == n {
				break
			}
		}
		if !slices.Equal(l, []string{"a", "", " b"}[:n]) {
			t.Errorf("the first %d lines are %q", n, l)
		}
	}
}
