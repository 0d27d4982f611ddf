package store

import (
	"bytes"
	"crypto/sha256"
	"fmt"
	"maps"
	"slices"
	"testing"

	"codex/api"
	"codex/disk"
)

// plainObject is an object, where it stands (0: nowhere yet) and how many refer to it.
type plainObject struct {
	kind        int
	body        string
	place, refs int
}

// plain is a store by the chapter's words alone: all of it in memory, blocks as a list of those that are used, and what the disk's blocks are to be.
type plain struct {
	gen            uint32
	root           int
	image          []api.Block
	used           []int
	lasts, pending map[api.Digest]plainObject
	log, newLog    api.Digest
}

// plainStore is what Format makes of a disk of n blocks of zeros.
func plainStore(n int) *plain {
	p := &plain{gen: 2, image: make([]api.Block, n), used: []int{0, 1}, lasts: map[api.Digest]plainObject{}, pending: map[api.Digest]plainObject{}}
	p.image[0] = superBlock(p.super())
	return p
}

func (p *plain) super() api.Super {
	return api.Super{Gen: p.gen, Blocks: len(p.image), Root: p.root, Log: p.log, Used: bits(p.used...)}
}

func (p *plain) put(kind int, body []byte) (api.Digest, api.Errno) {
	if kind < 1 || kind > 6 || len(body) > 1000 {
		return api.Digest{}, api.ErrArg
	}
	key := digest(kind, string(body))
	if _, ok := p.pending[key]; !ok {
		p.pending[key] = plainObject{kind: kind, body: string(body)}
	}
	return key, api.OK
}

func (p *plain) ref(key api.Digest, by int) api.Errno {
	o, ok := p.pending[key]
	if !ok {
		return api.ErrFind
	}
	if n := o.refs + by; by < -1000 || by > 1000 || n < 0 || n > 1000 {
		return api.ErrArg
	}
	o.refs += by
	p.pending[key] = o
	return api.OK
}

func (p *plain) drop(key api.Digest) api.Errno {
	o, ok := p.pending[key]
	if !ok {
		return api.ErrFind
	}
	if o.refs > 0 || key == p.newLog {
		return api.ErrArg
	}
	delete(p.pending, key)
	return api.OK
}

func (p *plain) setLog(key api.Digest) api.Errno {
	if _, ok := p.pending[key]; !ok && key != (api.Digest{}) {
		return api.ErrFind
	}
	p.newLog = key
	return api.OK
}

func (p *plain) abort() {
	p.pending, p.newLog = maps.Clone(p.lasts), p.log
}

// keys is the pending ones', the least first.
func (p *plain) keys() []api.Digest {
	return slices.SortedFunc(maps.Keys(p.pending), func(a, b api.Digest) int { return bytes.Compare(a[:], b[:]) })
}

func (p *plain) entries() []api.Entry {
	var l []api.Entry
	for _, key := range p.keys() {
		o := p.pending[key]
		l = append(l, api.Entry{Key: key, Place: o.place, Blocks: len(frame(o.kind, o.body)), Refs: o.refs})
	}
	return l
}

// firstRun is the least of n blocks in a row of which none is among used; 0, if there is none.
func firstRun(used []int, blocks, n int) int {
	for from := 2; n <= blocks-from; from++ {
		free := true
		for b := from; b < from+n; b++ {
			free = free && !slices.Contains(used, b)
		}
		if free {
			return from
		}
	}
	return 0
}

// row is n blocks from from on.
func row(from, n int) []int {
	var l []int
	for b := from; b < from+n; b++ {
		l = append(l, b)
	}
	return l
}

func (p *plain) commit(reserve, run int) api.Errno {
	if p.gen+1 >= 1<<30 {
		p.abort()
		return api.ErrLimit
	}
	taken, used, image := slices.Clone(p.used), []int{0, 1}, slices.Clone(p.image)
	full := func() api.Errno { p.abort(); return api.ErrFull }
	var texts [][]byte
	for i, key := range p.keys() {
		o := p.pending[key]
		f := frame(o.kind, o.body)
		if o.place == 0 {
			if o.place = firstRun(taken, len(image), len(f)); o.place == 0 {
				return full()
			}
			taken = append(taken, row(o.place, len(f))...)
			copy(image[o.place:], f)
			p.pending[key] = o
		}
		used = append(used, row(o.place, len(f))...)
		if i%3 == 0 {
			texts = append(texts, []byte{0x4c, 0})
		}
		t := texts[len(texts)-1]
		t[1]++
		texts[len(texts)-1] = append(append(t, key[:]...), byte(o.place), byte(len(f)), byte(o.refs/256), byte(o.refs%256))
	}
	root := 0
	if len(texts) > 0 {
		texts = append(texts, []byte{0x52, byte(len(texts))})
		for i, t := range texts {
			if root = firstRun(taken, len(image), 1); root == 0 {
				return full()
			}
			taken, used = append(taken, root), append(used, root)
			image[root] = block(t)
			if last := len(texts) - 1; i < last {
				texts[last] = append(texts[last], byte(root))
			}
		}
	}
	if len(image)-len(used) < reserve || run >= 1 && firstRun(used, len(image), run) == 0 {
		return full()
	}
	p.gen, p.root, p.image, p.used, p.lasts, p.log = p.gen+1, root, image, used, maps.Clone(p.pending), p.newLog
	p.image[p.gen%2] = superBlock(p.super())
	return api.OK
}

// bits is a bitmap of these blocks.
func bits(l ...int) api.Bitmap {
	var m api.Bitmap
	for _, b := range l {
		m[b/8] |= 1 << (b % 8)
	}
	return m
}

func digest(kind int, body string) api.Digest {
	return sha256.Sum256(append([]byte{byte(kind)}, body...))
}

// checked is a text with its check behind it.
func checked(text []byte) []byte {
	sum := sha256.Sum256(text)
	return slices.Concat(text, sum[:4])
}

// block is a text that takes one block.
func block(text []byte) api.Block {
	var b api.Block
	copy(b[:], checked(text))
	return b
}

// frame is an object's blocks.
func frame(kind int, body string) []api.Block {
	var l []api.Block
	for part := range slices.Chunk(checked(append([]byte{byte(kind), byte(len(body) / 256), byte(len(body) % 256)}, body...)), 128) {
		var b api.Block
		copy(b[:], part)
		l = append(l, b)
	}
	return l
}

func superBlock(s api.Super) api.Block {
	head := []byte{0x53, byte(s.Gen >> 24), byte(s.Gen >> 16), byte(s.Gen >> 8), byte(s.Gen), byte(s.Blocks), byte(s.Root)}
	return block(slices.Concat(head, s.Log[:], s.Used[:]))
}

// same holds a store that is not dead against the plain one: what is pending, what lasts, and, if asked, what stands on the disk.
func (p *plain) same(t *testing.T, name string, s *Store) {
	t.Helper()
	if got := s.Super(); got != p.super() || s.Dead() {
		t.Fatalf("%s: Super: %v; want %v", name, got, p.super())
	}
	if got := s.Entries(); !slices.Equal(got, p.entries()) {
		t.Fatalf("%s: Entries: %v; want %v", name, got, p.entries())
	}
	for key, o := range p.pending {
		if kind, body, e := s.Get(key); kind != o.kind || string(body) != o.body || e != api.OK {
			t.Fatalf("%s: Get: %d, %q, %d; want %d, %q", name, kind, body, e, o.kind, o.body)
		}
	}
}

// sameDisk holds the disk's blocks against those of the plain store.
func (p *plain) sameDisk(t *testing.T, name string, d *disk.Disk) {
	t.Helper()
	for i, want := range p.image {
		if b, e := d.Read(i); b != want || e != api.OK {
			t.Fatalf("%s: block %d is %x, %d; want %x", name, i, b, e, want)
		}
	}
}

// both is a store, and the plain one that is asked the same things.
type both struct {
	t *testing.T
	d *disk.Disk
	s *Store
	p *plain
}

// formatted is both on a new disk of n blocks.
func formatted(t *testing.T, n int) *both {
	t.Helper()
	d, e := disk.New(n)
	if e != api.OK {
		t.Fatalf("New(%d): %d", n, e)
	}
	s, e := Format(d)
	if e != api.OK {
		t.Fatalf("Format of %d blocks: %d", n, e)
	}
	return &both{t: t, d: d, s: s, p: plainStore(n)}
}

// told holds two errors against each other.
func (b *both) told(name string, got, want api.Errno) {
	b.t.Helper()
	if got != want {
		b.t.Fatalf("%s: %d; want %d", name, got, want)
	}
}

func (b *both) put(kind int, body string) api.Digest {
	b.t.Helper()
	key, e := b.s.Put(kind, []byte(body))
	want, wantE := b.p.put(kind, []byte(body))
	b.told(fmt.Sprintf("Put(%d, %d bytes)", kind, len(body)), e, wantE)
	if key != want {
		b.t.Fatalf("Put(%d, %d bytes): %x; want %x", kind, len(body), key, want)
	}
	return key
}

func (b *both) ref(key api.Digest, by int) api.Errno {
	b.t.Helper()
	e := b.s.Ref(key, by)
	b.told(fmt.Sprintf("Ref(%x, %d)", key[:2], by), e, b.p.ref(key, by))
	return e
}

func (b *both) drop(key api.Digest) api.Errno {
	b.t.Helper()
	e := b.s.Drop(key)
	b.told(fmt.Sprintf("Drop(%x)", key[:2]), e, b.p.drop(key))
	return e
}

func (b *both) setLog(key api.Digest) api.Errno {
	b.t.Helper()
	e := b.s.SetLog(key)
	b.told(fmt.Sprintf("SetLog(%x)", key[:2]), e, b.p.setLog(key))
	return e
}

func (b *both) abort() {
	b.s.Abort()
	b.p.abort()
}

// commit holds all that a Commit does against the plain one: how many writes and syncs, too.
func (b *both) commit(reserve, run int) api.Errno {
	b.t.Helper()
	name := fmt.Sprintf("Commit(%d, %d)", reserve, run)
	want := 3 + blocksOf(b.p)
	done := b.d.Done()
	e := b.s.Commit(reserve, run)
	b.told(name, e, b.p.commit(reserve, run))
	if e != api.OK {
		want = 0
	}
	if b.d.Done() != done+want || b.d.Loose() != 0 {
		b.t.Fatalf("%s: %d writes and syncs, %d loose; want %d", name, b.d.Done()-done, b.d.Loose(), want)
	}
	b.same(name)
	b.p.sameDisk(b.t, name, b.d)
	return e
}

// blocksOf is how many blocks a Commit writes ahead of its first sync.
func blocksOf(p *plain) int {
	n := 0
	for _, o := range p.pending {
		if o.place == 0 {
			n += len(frame(o.kind, o.body))
		}
	}
	if len(p.pending) > 0 {
		n += (len(p.pending)+2)/3 + 1
	}
	return n
}

func (b *both) same(name string) {
	b.t.Helper()
	b.p.same(b.t, name, b.s)
}

// crashed is a crash that keeps nothing, behind a Commit that was cut: what stands in free blocks may be anything then.
func (b *both) crashed() {
	b.t.Helper()
	b.d.Crash(nil, -1)
	for i := range b.p.image {
		if !slices.Contains(b.p.used, i) {
			b.p.image[i], _ = b.d.Read(i)
		}
	}
}

// mount mounts the disk anew: what was pending is aborted.
func (b *both) mount() {
	b.t.Helper()
	done := b.d.Done()
	s, e := Mount(b.d)
	b.told("Mount", e, api.OK)
	if b.d.Done() != done || b.d.Loose() != 0 {
		b.t.Fatal("Mount wrote")
	}
	b.s = s
	b.p.abort()
	b.same("mounted")
	b.p.sameDisk(b.t, "mounted", b.d)
}
