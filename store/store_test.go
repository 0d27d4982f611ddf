package store

import (
	"bytes"
	"fmt"
	"math"
	"slices"
	"strings"
	"testing"

	"codex/api"
)

// P8.1, P8.2, P8.3: the chapter's example: what is Put and committed is there behind a Mount.
func TestExample(t *testing.T) {
	b := formatted(t, 16)
	key := b.put(3, "a page")
	b.commit(0, 0)
	b.mount()
	if kind, body, e := b.s.Get(key); kind != 3 || string(body) != "a page" || e != api.OK {
		t.Error(kind, body, e)
	}
}

// P8.2: Put of bodies of every length and every kind; one byte more, or a kind beyond either end, is no object.
func TestPutOfEveryObject(t *testing.T) {
	b := formatted(t, 128)
	for kind := -1; kind <= 8; kind++ {
		for _, n := range []int{0, 1, 120, 121, 122, 123, 248, 249, 250, 999, 1000, 1001, 5000} {
			b.put(kind, strings.Repeat("x", n))
		}
	}
	for _, kind := range []int{math.MinInt, -255, 7, 255, 256, 257, 262, 1 << 32, 1<<32 + 1, math.MaxInt} {
		b.put(kind, "x")
	}
	b.same("kinds")
	for n := range 1003 {
		b.put(2, strings.Repeat("y", n))
	}
	b.same("lengths")
}

// P8.2: an entry that is new has no Place and no Refs; Put twice, it is one.
func TestPutTwice(t *testing.T) {
	b := formatted(t, 16)
	key := b.put(1, "one")
	want := []api.Entry{{Key: key, Blocks: 1}}
	if l := b.s.Entries(); !slices.Equal(l, want) {
		t.Error(l)
	}
	b.ref(key, 5)
	want[0].Refs = 5
	b.put(1, "one")
	if l := b.s.Entries(); !slices.Equal(l, want) {
		t.Error("its Refs stay:", l)
	}
	b.commit(0, 0)
	want[0].Place = 2
	b.put(1, "one")
	if l := b.s.Entries(); !slices.Equal(l, want) {
		t.Error("of what lasts:", l)
	}
	// Dropped and Put again it is a new one, whatever lasts.
	b.ref(key, -5)
	b.drop(key)
	b.put(1, "one")
	want[0].Place, want[0].Refs = 0, 0
	if l := b.s.Entries(); !slices.Equal(l, want) {
		t.Error("of what was dropped:", l)
	}
	b.same("dropped")
	b.commit(0, 0)
	b.mount()
	if l := b.s.Entries(); len(l) != 1 || l[0].Place != 5 {
		t.Error("what lasted isn't written over:", l)
	}
}

// P8.2: Entries by rising Keys, new ones and those that last among each other.
func TestEntriesRise(t *testing.T) {
	b := formatted(t, 128)
	for i := range 40 {
		b.put(1+i%6, fmt.Sprint("object ", i))
		if i == 20 {
			b.commit(0, 0)
		}
		b.same(fmt.Sprint(i))
	}
	if l := b.s.Entries(); len(l) != 40 || !slices.IsSortedFunc(l, func(a, b api.Entry) int { return bytes.Compare(a.Key[:], b.Key[:]) }) {
		t.Error(l)
	}
}

// P8.2: Refs from 0 to MaxRefs, by any number; of what is not pending: ErrFind, whatever by is.
func TestRefsEdges(t *testing.T) {
	b := formatted(t, 16)
	key := b.put(1, "one")
	wide := []int{math.MinInt, math.MinInt + 1, -1 << 32, -1001, -1000, -999, -2, -1, 0, 1, 2, 999, 1000, 1001, 1 << 32, math.MaxInt - 1000, math.MaxInt - 1, math.MaxInt}
	for _, refs := range []int{0, 1, 2, 255, 256, 500, 999, 1000} {
		for _, by := range wide {
			b.abort()
			b.put(1, "one")
			if refs > 0 {
				b.told("to begin with", b.ref(key, refs), api.OK)
			}
			want := api.ErrArg
			if by >= -1000 && by <= 1000 && refs+by >= 0 && refs+by <= 1000 {
				want = api.OK
			}
			b.told(fmt.Sprint("Ref of ", refs, " by ", by), b.ref(key, by), want)
			b.same("Ref")
		}
	}
	for _, by := range wide {
		b.told("of nothing", b.ref(digest(2, "one"), by), api.ErrFind)
		b.told("of zeros", b.ref(api.Digest{}, by), api.ErrFind)
	}
}

// P8.2, P8.3: each number of Refs lasts.
func TestRefsLast(t *testing.T) {
	b := formatted(t, 16)
	key := b.put(1, "one")
	for _, refs := range []int{1, 255, 256, 257, 999, 1000, 0} {
		b.ref(key, refs-b.p.pending[key].refs)
		b.commit(0, 0)
		b.mount()
		if l := b.s.Entries(); l[0].Refs != refs || l[0].Place != 2 {
			t.Error(refs, l)
		}
	}
}

// P8.2: Drop of what is not there, what has Refs, what is the pending Log, whether it lasts or not.
func TestDrop(t *testing.T) {
	for _, lasts := range []bool{false, true} {
		b := formatted(t, 16)
		key, other := b.put(1, "one"), b.put(6, "log")
		b.ref(key, 1)
		b.setLog(other)
		if lasts {
			b.commit(0, 0)
		}
		b.told("of nothing", b.drop(digest(1, "two")), api.ErrFind)
		b.told("of zeros", b.drop(api.Digest{}), api.ErrFind)
		b.told("of what has a Ref", b.drop(key), api.ErrArg)
		b.told("of the log", b.drop(other), api.ErrArg)
		b.same("nothing is dropped")
		b.ref(key, -1)
		b.setLog(key)
		b.told("of the log that lasts, if another is pending", b.drop(other), api.OK)
		b.told("of the new log", b.drop(key), api.ErrArg)
		b.setLog(api.Digest{})
		b.told("of the log that was", b.drop(key), api.OK)
		b.told("twice", b.drop(key), api.ErrFind)
		b.told("Ref of it", b.ref(key, 1), api.ErrFind)
		b.told("SetLog of it", b.setLog(key), api.ErrFind)
		if kind, body, e := b.s.Get(key); kind != 0 || len(body) != 0 || e != api.ErrFind {
			t.Error("Get of it:", kind, body, e)
		}
		b.same("both are dropped")
		b.commit(0, 0)
		b.mount()
		if x := b.s.Super(); x.Root != 0 || x.Used != bits(0, 1) || x.Log != (api.Digest{}) {
			t.Error(x)
		}
	}
}

// P8.2: SetLog of zeros, of what is there, of what is not; what lasts is told by Super until a Commit.
func TestSetLog(t *testing.T) {
	b := formatted(t, 16)
	key := b.put(6, "log")
	for _, k := range []api.Digest{digest(5, "log"), {1}, {31: 1}} {
		b.told("of what is not there", b.setLog(k), api.ErrFind)
	}
	b.told("of zeros", b.setLog(api.Digest{}), api.OK)
	b.told("of what is there", b.setLog(key), api.OK)
	b.told("of what is not there", b.setLog(api.Digest{1}), api.ErrFind)
	if x := b.s.Super(); x.Log != (api.Digest{}) {
		t.Error("pending, and told:", x)
	}
	b.commit(0, 0)
	if x := b.s.Super(); x.Log != key {
		t.Error(x)
	}
	b.mount()
	b.told("of zeros", b.setLog(api.Digest{}), api.OK)
	if x := b.s.Super(); x.Log != key {
		t.Error("pending, and told:", x)
	}
	b.commit(0, 0)
	b.mount()
	// A log may be of any kind.
	b.setLog(b.put(1, "log"))
	b.commit(0, 0)
	b.mount()
}

// P8.2: Get of what was only Put and of what lasts, of each number of blocks.
func TestGet(t *testing.T) {
	b := formatted(t, 128)
	for i, n := range []int{0, 1, 121, 122, 249, 250, 500, 1000} {
		b.put(1+i%6, strings.Repeat(string(rune('a'+i)), n))
	}
	b.same("only Put")
	b.commit(0, 0)
	b.same("lasts")
	b.mount()
	for _, key := range []api.Digest{{}, {1}, digest(2, ""), digest(0, ""), digest(3, "c")} {
		if kind, body, e := b.s.Get(key); kind != 0 || len(body) != 0 || e != api.ErrFind {
			t.Errorf("Get of what is not there: %d, %x, %d", kind, body, e)
		}
	}
}

// P8.2: what was Put is not kept: the body may be changed behind it; what is told is new memory, its spare room, too.
func TestNothingIsShared(t *testing.T) {
	b := formatted(t, 16)
	room := []byte("a body and more")
	body := room[:6]
	key, _ := b.s.Put(1, body)
	b.p.put(1, []byte("a body"))
	if string(room) != "a body and more" {
		t.Errorf("changed: %q", room)
	}
	copy(room, "xxxxxxxxxxxxxxx")
	for _, name := range []string{"only Put", "lasts"} {
		b.same(name)
		_, x, _ := b.s.Get(key)
		_, y, _ := b.s.Get(key)
		for _, l := range [][]byte{x[:cap(x)], y[:cap(y)]} {
			for i := range l {
				l[i]++
			}
		}
		if cap(x) > 0 && cap(y) > 0 && &x[:1][0] == &y[:1][0] {
			t.Error(name, "two answers share memory")
		}
		l := b.s.Entries()
		l = l[:cap(l)]
		for i := range l {
			l[i] = api.Entry{Place: 99}
		}
		b.same(name)
		b.commit(0, 0)
	}
}

// P8.2: Abort behind each call, alone and together, is as if none of them had come.
func TestAbort(t *testing.T) {
	for call := range 1 << 6 {
		b := formatted(t, 16)
		old, free, log := b.put(1, "old"), b.put(2, "free"), b.put(6, "log")
		b.ref(old, 2)
		b.setLog(log)
		b.commit(0, 0)
		fresh := digest(3, "new")
		if call&1 != 0 {
			b.put(3, "new")
		}
		if call&2 != 0 {
			b.ref(old, 3)
		}
		if call&4 != 0 {
			b.drop(free)
		}
		if call&8 != 0 {
			b.setLog(fresh)
		}
		if call&16 != 0 {
			b.setLog(api.Digest{})
			b.drop(log)
		}
		if call&32 != 0 {
			b.ref(fresh, 1)
			b.put(2, "free")
		}
		b.same("ahead of Abort")
		done := b.d.Done()
		b.abort()
		b.same("behind Abort")
		if b.d.Done() != done {
			t.Error("Abort wrote")
		}
		b.told("the log is as it was", b.drop(log), api.ErrArg)
		b.told("Refs are as they were", b.ref(old, -3), api.ErrArg)
		b.told("new ones are none", b.drop(fresh), api.ErrFind)
		b.abort()
		b.commit(0, 0)
		b.mount()
	}
}

// silent holds all calls but Super and Dead against one error.
func silent(t *testing.T, name string, s *Store, want api.Errno) {
	t.Helper()
	for _, key := range []api.Digest{{}, {1}, digest(1, "one"), digest(2, "two")} {
		if e := s.Ref(key, 1); e != want {
			t.Errorf("%s: Ref: %d", name, e)
		}
		if e := s.Ref(key, math.MaxInt); e != want {
			t.Errorf("%s: Ref beyond: %d", name, e)
		}
		if e := s.Drop(key); e != want {
			t.Errorf("%s: Drop: %d", name, e)
		}
		if e := s.SetLog(key); e != want {
			t.Errorf("%s: SetLog: %d", name, e)
		}
		if kind, body, e := s.Get(key); kind != 0 || len(body) != 0 || e != want {
			t.Errorf("%s: Get: %d, %x, %d", name, kind, body, e)
		}
	}
	for _, kind := range []int{1, 2, 7, -1} {
		for _, n := range []int{0, 3, 1000, 1001} {
			if key, e := s.Put(kind, make([]byte, n)); e != want || key != (api.Digest{}) {
				t.Errorf("%s: Put(%d, %d bytes): %x, %d", name, kind, n, key, e)
			}
		}
	}
	for _, n := range []int{0, 1, -1, math.MaxInt, math.MinInt} {
		if e := s.Commit(n, n); e != want {
			t.Errorf("%s: Commit(%d, %d): %d", name, n, n, e)
		}
	}
	s.Abort()
	if l := s.Entries(); len(l) != 0 {
		t.Errorf("%s: Entries: %v", name, l)
	}
}

// P8.3: a store that is none.
func TestNil(t *testing.T) {
	var s *Store
	silent(t, "nil", s, api.ErrArg)
	if s.Super() != (api.Super{}) || s.Dead() {
		t.Error(s.Super(), s.Dead())
	}
	// One that neither Format nor Mount made has no disk: an error, whichever, and no panic.
	s = new(Store)
	silent(t, "zero", s, s.Ref(api.Digest{}, 1))
	if s.Super() != (api.Super{}) {
		t.Error(s.Super())
	}
}
