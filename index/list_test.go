package index

import (
	"cmp"
	"fmt"
	"slices"
	"testing"

	"codex/api"
)

// holds checks Find, Insert and Remove of a Key against the answers that are asked for.
func holds(t *testing.T, l []api.Entry, k api.Digest, at int, there bool) {
	t.Helper()
	if got, ok := Find(l, k); got != at || ok != there {
		t.Errorf("Find of %x.. in %d: %d, %v, not %d, %v", k[:2], len(l), got, ok, at, there)
	}
	e := api.Entry{Key: k, Place: 77, Blocks: 3, Refs: 5}
	more, err := Insert(l, e)
	fewer, err2 := Remove(l, k)
	if there {
		if err != api.ErrArg || len(more) != 0 {
			t.Errorf("Insert of %x.., which is there: %v, %d", k[:2], more, err)
		}
		if want := slices.Delete(slices.Clone(l), at, at+1); err2 != api.OK || !slices.Equal(fewer, want) {
			t.Errorf("Remove of %x..: %v, %d", k[:2], fewer, err2)
		}
		return
	}
	if want := slices.Insert(slices.Clone(l), at, e); err != api.OK || !slices.Equal(more, want) {
		t.Errorf("Insert of %x..: %v, %d", k[:2], more, err)
	}
	if err2 != api.ErrFind || len(fewer) != 0 {
		t.Errorf("Remove of %x.., which is not there: %v, %d", k[:2], fewer, err2)
	}
}

// P6.2: lists of each length, every Key of them, and one ahead of each, between each two and behind all.
func TestEveryKey(t *testing.T) {
	for n := range 140 {
		l := many(n) // of the keys 2, 4, .. 2n
		for i := range n {
			holds(t, l, key(2*i+1), i, false)
			holds(t, l, key(2*i+2), i, true)
		}
		holds(t, l, api.Digest{}, 0, false)
		holds(t, l, key(2*n+1), n, false)
		holds(t, l, key(65535), n, false)
	}
}

// P6.2: no entries, nil or empty.
func TestListsOfNone(t *testing.T) {
	for _, l := range [][]api.Entry{nil, {}, make([]api.Entry, 0, 4)} {
		holds(t, l, api.Digest{}, 0, false)
		holds(t, l, key(9), 0, false)
	}
	if l, e := Remove(many(1), key(2)); e != api.OK || len(l) != 0 {
		t.Error(l, e)
	}
}

// P6.2: Keys that differ by one byte alone, whichever it is; those of zeros and of all bits.
func TestKeysByEveryByte(t *testing.T) {
	for i := range api.Hash {
		l := []api.Entry{{Key: key(7)}, {Key: key(7)}}
		l[0].Key[i], l[1].Key[i] = 100, 200
		for b, at := range map[byte]int{0: 0, 99: 0, 101: 1, 127: 1, 128: 1, 199: 1, 201: 2, 255: 2} {
			k := key(7)
			k[i] = b
			holds(t, l, k, at, false)
		}
		holds(t, l, l[0].Key, 0, true)
		holds(t, l, l[1].Key, 1, true)
	}
	var ones api.Digest
	for i := range ones {
		ones[i] = 255
	}
	l := []api.Entry{{}, {Key: key(7)}, {Key: ones}}
	holds(t, l, api.Digest{}, 0, true)
	holds(t, l, ones, 2, true)
	holds(t, l[1:2], api.Digest{}, 0, false)
	holds(t, l[1:2], ones, 1, false)
}

// P6.2: of an entry the Key alone is asked: one that may not be is put in as it is, and so are one whose blocks are another's, and more than an index can have.
func TestInsertAsksForTheKeyAlone(t *testing.T) {
	l := many(130)
	for _, e := range append(wrongEntries(5), entry(5, 127, 1), entry(5, 120, 8)) {
		got, err := Insert(l, e)
		if err != api.OK || !slices.Equal(got, slices.Insert(slices.Clone(l), 2, e)) {
			t.Errorf("%v: %d", e, err)
		}
		e.Key = key(6)
		if got, err := Insert(l, e); err != api.ErrArg || len(got) != 0 {
			t.Errorf("%v: %d", e, err)
		}
	}
}

// P6.2: entries put in and taken out in any order: always a list whose Keys rise, of just those that are in.
func TestInAndOut(t *testing.T) {
	var l, want []api.Entry
	x := uint32(3)
	for step := range 4000 {
		x = x*1664525 + 1013904223
		e := entry(int(x>>8)%97, step, 1)
		was := slices.IndexFunc(want, func(y api.Entry) bool { return y.Key == e.Key })
		var err api.Errno
		if was < 0 {
			want = append(want, e)
			l, err = Insert(l, e)
		} else {
			want = slices.Delete(want, was, was+1)
			l, err = Remove(l, e.Key)
		}
		rising := slices.SortedFunc(slices.Values(want), func(a, b api.Entry) int { return slices.Compare(a.Key[:], b.Key[:]) })
		if err != api.OK || !slices.Equal(l, rising) {
			t.Fatalf("step %d: %d", step, err)
		}
	}
}

// P6.2: Keys that do not rise, or are alike, bring no call to a panic, and every call ends.
func TestKeysThatDoNotRise(t *testing.T) {
	falling := many(9)
	slices.Reverse(falling)
	for _, l := range [][]api.Entry{falling, make([]api.Entry, 9), slices.Concat(many(4), many(4))} {
		for n := range 22 {
			if at, _ := Find(l, key(n)); at < 0 || at > len(l) {
				t.Error(at)
			}
			if more, e := Insert(l, entry(n, 2, 1)); e == api.OK && len(more) != len(l)+1 || e != api.OK && (e != api.ErrArg || len(more) != 0) {
				t.Error(len(more), e)
			}
			if fewer, e := Remove(l, key(n)); e == api.OK && len(fewer) != len(l)-1 || e != api.OK && (e != api.ErrFind || len(fewer) != 0) {
				t.Error(len(fewer), e)
			}
		}
	}
}

// P6.1, P6.2: what is handed in stays as it is, its spare room included.
func TestArgumentsStay(t *testing.T) {
	room, at := many(12), places(2, 12)
	blocks := leavesOf(many(20)...)
	was, wasAt, wasBlocks := slices.Clone(room), slices.Clone(at), slices.Clone(blocks)
	for n := range 10 {
		Good(room[:n])
		Pack(room[:n], at[:Size(n)])
		Pack(room[:n], at[:Size(n)+1])
		Unpack(blocks[:min(n, 5)])
		for k := range 26 {
			Find(room[:n], key(k))
			Insert(room[:n], entry(k, 9, 1))
			Remove(room[:n], key(k))
		}
		if !slices.Equal(room, was) || !slices.Equal(at, wasAt) || !slices.Equal(blocks, wasBlocks) {
			t.Fatalf("of %d entries: changed", n)
		}
	}
}

// P6.1, P6.2: no two answers share memory, nor an answer and an argument, their spare room neither.
func TestAnswersAreNew(t *testing.T) {
	room := many(12)
	l, at := room[:7], places(60, 4)
	blocks, _ := Pack(l, at)
	for name, ask := range map[string]func() []api.Entry{
		"Unpack":          func() []api.Entry { m, _ := Unpack(blocks[:3]); return m },
		"Unpack of one":   func() []api.Entry { m, _ := Unpack(blocks[:1]); return m },
		"Insert in front": func() []api.Entry { m, _ := Insert(l, entry(1, 9, 1)); return m },
		"Insert":          func() []api.Entry { m, _ := Insert(l, entry(5, 9, 1)); return m },
		"Insert behind":   func() []api.Entry { m, _ := Insert(l, entry(15, 9, 1)); return m },
		"Remove in front": func() []api.Entry { m, _ := Remove(l, key(2)); return m },
		"Remove":          func() []api.Entry { m, _ := Remove(l, key(8)); return m },
		"Remove behind":   func() []api.Entry { m, _ := Remove(l, key(14)); return m },
	} {
		first, second := ask(), ask()
		was := slices.Clone(second)
		clear(first[:cap(first)])
		if !slices.Equal(second, was) || !slices.Equal(room, many(12)) {
			t.Errorf("%s: memory is shared", name)
		}
	}
	again, _ := Pack(l, at)
	clear(blocks[:cap(blocks)])
	if !slices.Equal(again, append(leavesOf(l...), rootOf(60, 61, 62))) || !slices.Equal(at, places(60, 4)) {
		t.Error("Pack: memory is shared")
	}
}

// A sorted list is one of any elements by any keys.
func TestSortedOfOtherThings(t *testing.T) {
	words := sorted[string, int]{
		list: []string{"a", "bcd", "efghi"},
		key:  func(s string) int { return len(s) },
		less: cmp.Less[int],
	}
	for n, want := range []string{"0 false", "0 true", "1 false", "1 true", "2 false", "2 true", "3 false"} {
		at, there := words.find(n)
		if got := fmt.Sprint(at, " ", there); got != want {
			t.Errorf("%d: %s, not %s", n, got, want)
		}
	}
	more, ok := words.with("xy")
	if !ok || !slices.Equal(more, []string{"a", "xy", "bcd", "efghi"}) || !words.rises() {
		t.Error(more, ok)
	}
	if _, ok := words.with("xyz"); ok {
		t.Error("a length that is there")
	}
	fewer, ok := words.without(3)
	if !ok || !slices.Equal(fewer, []string{"a", "efghi"}) {
		t.Error(fewer, ok)
	}
	words.list = []string{"a", "b"}
	if words.rises() {
		t.Error("lengths that are alike rise")
	}
}
