package lzma

import (
	"bytes"
	"maps"
	"math/rand"
	"slices"
	"testing"

	"baler/api"
	"baler/ledger"
	"baler/ranges"
	"baler/window"
)

// What stands here tells the chapter's words once more, in a plain and slow way: chances by their names, the window as a list of
// all bytes. It goes both ways: by an encoder it lays chunks, by a decoder it reads them, and the program is held against it.

// name names a chance: the chapter's word for it, and its numbers.
type name struct {
	word string
	a, b int
	m    int
}

// model is a state.
type model struct {
	lc, lp, pb int
	state      int
	rep        [4]uint32
	chances    map[name]uint16 // those that are no longer 1024
}

func newModel() *model {
	return &model{lc: 3, lp: 0, pb: 2, chances: map[name]uint16{}}
}

func (m *model) reset() {
	m.state, m.rep, m.chances = 0, [4]uint32{}, map[name]uint16{}
}

func (m *model) clone() *model {
	other := *m
	other.chances = maps.Clone(m.chances)
	return &other
}

// list is a window.
type list struct {
	size    int
	all     []byte
	dropped bool
}

func (l *list) clone() *list {
	return &list{size: l.size, all: slices.Clone(l.all), dropped: l.dropped}
}

func (l *list) put(b byte) {
	if !l.dropped {
		l.all = append(l.all, b)
	}
}

// at tells the byte that stands so far back, 0 if there is none.
func (l *list) at(back int64) byte {
	if back > int64(l.size) || back > int64(len(l.all)) {
		return 0
	}
	return l.all[int64(len(l.all))-back]
}

// refuses tells the error of a copy from so far back.
func (l *list) refuses(back int64) api.Errno {
	if l.dropped {
		return api.ErrNone
	}
	if back > int64(l.size) || back > int64(len(l.all)) {
		return api.ErrMalformed
	}
	return api.OK
}

// coder has either an encoder, into which what is handed in goes, or a decoder, out of which what is told comes.
type coder struct {
	put *ranges.Encoder
	get *ranges.Decoder
}

func (c coder) direct(x uint32, n int) uint32 {
	if c.put != nil {
		c.put.Direct(x, n)
		return x
	}
	return c.get.Direct(n)
}

// bit is a bit by the chance of this name.
func (m *model) bit(c coder, n name, bit int) int {
	p, ok := m.chances[n]
	if !ok {
		p = 1024
	}
	if c.put != nil {
		c.put.Bit(&p, bit)
	} else {
		bit = c.get.Bit(&p)
	}
	m.chances[n] = p
	return bit
}

func (m *model) tree(c coder, n name, x, bits int) int {
	n.m = 1
	for k := bits - 1; k >= 0; k-- {
		n.m = 2*n.m + m.bit(c, n, x>>k&1)
	}
	return n.m - 1<<bits
}

// backwards has the chances of n numbered from n.a on.
func (m *model) backwards(c coder, n name, x uint32, bits int) uint32 {
	at, told := 1, uint32(0)
	for k := range bits {
		bit := m.bit(c, name{word: n.word, a: n.a + at}, int(x>>k&1))
		at = 2*at + bit
		told += uint32(bit) << k
	}
	return told
}

// Kinds of operations.
const (
	aByte = iota
	aMatch
	aShort
	aRepeat
)

// op is an operation: of a byte it, of a match its rep0 (far) and its length, of a repeat which distance, and its length.
type op struct {
	kind   int
	b      byte
	far    uint32
	which  int
	length int
}

func byteOf(b byte) op                  { return op{kind: aByte, b: b} }
func matchOf(far uint32, length int) op { return op{kind: aMatch, far: far, length: length} }
func shortOf() op                       { return op{kind: aShort} }
func repeatOf(which int, length int) op { return op{kind: aRepeat, which: which, length: length} }

func yes(b bool) int {
	if b {
		return 1
	}
	return 0
}

func pick(below bool, one, other int) int {
	if below {
		return one
	}
	return other
}

// operation is o, laid, or the one that is read. first: there is no byte ahead; total: of how many bytes, modulo 16.
func (m *model) operation(c coder, w *list, total int, first bool, o op) op {
	s, p := m.state, total%(1<<m.pb)
	if m.bit(c, name{word: "match", a: s, b: p}, yes(o.kind != aByte)) == 0 {
		o = byteOf(m.literal(c, w, total, first, o.b))
		m.state = [12]int{0, 0, 0, 0, 1, 2, 3, 4, 5, 6, 4, 5}[s]
		return o
	}
	below := s < 7
	if m.bit(c, name{word: "repeat", a: s}, yes(o.kind != aMatch)) == 0 {
		m.rep[3], m.rep[2], m.rep[1] = m.rep[2], m.rep[1], m.rep[0]
		length := m.length(c, "first set", p, o.length)
		m.state = pick(below, 7, 10)
		m.rep[0] = m.distance(c, length, o.far)
		return matchOf(m.rep[0], length)
	}
	if m.bit(c, name{word: "first", a: s}, yes(o.kind == aRepeat && o.which > 0)) == 0 {
		if m.bit(c, name{word: "long", a: s, b: p}, yes(o.kind == aRepeat)) == 0 {
			m.state = pick(below, 9, 11)
			return shortOf()
		}
		o.which = 0
	} else if m.bit(c, name{word: "second", a: s}, yes(o.which > 1)) == 0 {
		o.which = 1
		m.rep[0], m.rep[1] = m.rep[1], m.rep[0]
	} else if m.bit(c, name{word: "third", a: s}, yes(o.which > 2)) == 0 {
		o.which = 2
		m.rep[0], m.rep[1], m.rep[2] = m.rep[2], m.rep[0], m.rep[1]
	} else {
		o.which = 3
		m.rep[0], m.rep[1], m.rep[2], m.rep[3] = m.rep[3], m.rep[0], m.rep[1], m.rep[2]
	}
	length := m.length(c, "second set", p, o.length)
	m.state = pick(below, 8, 11)
	return repeatOf(o.which, length)
}

func (m *model) literal(c coder, w *list, total int, first bool, b byte) byte {
	last := w.at(1)
	if first {
		last = 0
	}
	n := name{word: "literal", a: total%(1<<m.lp)*(1<<m.lc) + int(last)/(1<<(8-m.lc))}
	if m.state < 7 {
		return byte(m.tree(c, n, int(b), 8))
	}
	other := w.at(int64(m.rep[0]) + 1)
	at, like := 1, true
	for k := 7; k >= 0; k-- {
		bit := int(other >> k & 1)
		n.m = at
		if like {
			n.m = (1+bit)*256 + at
		}
		told := m.bit(c, n, int(b>>k&1))
		at = 2*at + told
		like = like && told == bit
	}
	return byte(at - 256)
}

func (m *model) length(c coder, set string, p, length int) int {
	if m.bit(c, name{word: set}, yes(length > 9)) == 0 {
		return 2 + m.tree(c, name{word: set + ", short", a: p}, length-2, 3)
	}
	if m.bit(c, name{word: set + ", then"}, yes(length > 17)) == 0 {
		return 10 + m.tree(c, name{word: set + ", middle", a: p}, length-10, 3)
	}
	return 18 + m.tree(c, name{word: set + ", long"}, length-18, 8)
}

// slotOf finds the slot of a distance, its k and its base, by going over all of them.
func slotOf(far uint32) (slot, k int, base uint32) {
	if far < 4 {
		return int(far), 0, far
	}
	for slot = 63; ; slot-- {
		if k, base = slotParts(slot); base <= far {
			return slot, k, base
		}
	}
}

func slotParts(slot int) (k int, base uint32) {
	k = slot/2 - 1
	return k, uint32(2+slot%2) << k
}

func (m *model) distance(c coder, length int, far uint32) uint32 {
	slot, k, base := slotOf(far)
	slot = m.tree(c, name{word: "slot", a: min(length, 5) - 2}, slot, 6)
	if slot < 4 {
		return uint32(slot)
	}
	if c.get != nil {
		k, base = slotParts(slot)
	}
	if slot < 14 {
		return base + m.backwards(c, name{word: "distance", a: int(base) - slot}, far-base, k)
	}
	direct := c.direct((far-base)>>4, k-4)
	return base + direct<<4 + m.backwards(c, name{word: "align"}, (far-base)&15, 4)
}

// copied puts what an operation that is no byte copies, or tells the error.
func (m *model) copied(w *list, o op) ([]byte, api.Errno) {
	back := int64(m.rep[0]) + 1
	if e := w.refuses(back); e != api.OK {
		return nil, e
	}
	start := len(w.all)
	for range max(1, o.length) {
		w.put(w.at(back))
	}
	return w.all[start:], api.OK
}

// read is Chunk, one condition behind the other as P12.3 names them.
func (m *model) read(w *list, total int, b []byte, n int) ([]byte, api.Errno) {
	if n < 1 || n > 2097152 || total < 0 {
		return nil, api.ErrArg
	}
	d, e := ranges.NewDecoder(b)
	if e != api.OK {
		return nil, api.ErrMalformed
	}
	var told []byte
	for len(told) < n {
		o := m.operation(coder{get: d}, w, (total%16+len(told))%16, total == 0 && len(told) == 0, op{})
		if o.kind == aByte {
			w.put(o.b)
			told = append(told, o.b)
			continue
		}
		if len(told)+max(1, o.length) > n || o.kind == aMatch && o.far == 0xffffffff {
			return nil, api.ErrMalformed
		}
		b, e := m.copied(w, o)
		if e != api.OK {
			return nil, e
		}
		told = append(told, b...)
	}
	if left, e := d.End(); e != api.OK || left > 0 {
		return nil, api.ErrMalformed
	}
	return told, api.OK
}

// pen lays a chunk, operation by operation.
type pen struct {
	m     *model
	w     *list
	total int
	c     coder
	told  []byte
}

// put lays operations. One that can't be done is laid, but tells nothing.
func (p *pen) put(ops ...op) *pen {
	for _, o := range ops {
		p.m.operation(p.c, p.w, (p.total%16+len(p.told))%16, p.total == 0 && len(p.told) == 0, o)
		if o.kind == aByte {
			p.w.put(o.b)
			p.told = append(p.told, o.b)
		} else if b, e := p.m.copied(p.w, o); e == api.OK {
			p.told = append(p.told, b...)
		}
	}
	return p
}

// text lays bytes.
func (p *pen) text(s string) *pen {
	for _, b := range []byte(s) {
		p.put(byteOf(b))
	}
	return p
}

func (p *pen) close() []byte {
	return p.c.put.Close()
}

// reaches tells if a distance names a byte.
func (p *pen) reaches(far uint32) bool {
	return p.w.refuses(int64(far)+1) == api.OK
}

// pair is a state and a window of the program, and of the model.
type pair struct {
	t *testing.T
	s *State
	w *window.Window
	m *model
	l *list
}

func pairOf(t *testing.T, size int) *pair {
	t.Helper()
	return &pair{t: t, s: New(), w: windowOf(t, size), m: newModel(), l: &list{size: size}}
}

func windowOf(t *testing.T, size int) *window.Window {
	t.Helper()
	w, e := window.New(size, ledger.New(api.MaxWindow))
	if e != api.OK {
		t.Fatalf("window.New(%d): %d", size, int(e))
	}
	return w
}

// window puts a new window in the place of the old one.
func (x *pair) window(size int) *pair {
	x.t.Helper()
	x.w, x.l = windowOf(x.t, size), &list{size: size}
	return x
}

// holds puts bytes into both windows.
func (x *pair) holds(b []byte) *pair {
	x.w.Put(b)
	x.l.all = append(x.l.all, b...)
	return x
}

func (x *pair) props(lc, lp, pb int) *pair {
	x.t.Helper()
	if e := x.s.Props(propsOf(lc, lp, pb)); e != api.OK {
		x.t.Fatalf("Props of %d %d %d: %d", lc, lp, pb, int(e))
	}
	x.m.lc, x.m.lp, x.m.pb = lc, lp, pb
	x.m.reset()
	return x
}

func propsOf(lc, lp, pb int) byte {
	return byte((pb*5+lp)*9 + lc)
}

func (x *pair) reset() *pair {
	x.s.Reset()
	x.m.reset()
	return x
}

// pen gives one that lays a chunk for what both are by now.
func (x *pair) pen(total int) *pen {
	return &pen{m: x.m.clone(), w: x.l.clone(), total: total, c: coder{put: ranges.NewEncoder()}}
}

// asks reads a chunk by both and looks that they are alike in what they tell, in their windows and in their states.
func (x *pair) asks(total int, b []byte, n int) ([]byte, api.Errno) {
	x.t.Helper()
	room := b[:cap(b)]
	kept := slices.Clone(room)
	told, e := x.s.Chunk(x.w, total, b, n)
	if !bytes.Equal(room, kept) {
		x.t.Fatal("Chunk has changed what it was handed")
	}
	if e != api.OK && len(told) != 0 {
		x.t.Fatalf("Chunk answers %d and %d bytes", int(e), len(told))
	}
	want, wantErr := x.m.read(x.l, total, b, n)
	if e != wantErr || !bytes.Equal(told, want) {
		x.t.Fatalf("Chunk(%d, %d bytes, %d) = %.80q, %d; by the model %.80q, %d", total, len(b), n, told, int(e), want, int(wantErr))
	}
	x.same()
	return told, e
}

// same looks that both states and both windows are alike.
func (x *pair) same() {
	x.t.Helper()
	if int(x.s.phase) != x.m.state || x.s.reps != x.m.rep {
		x.t.Fatalf("state %d, distances %v; by the model %d, %v", x.s.phase, x.s.reps, x.m.state, x.m.rep)
	}
	if x.s.settings != (settings{x.m.lc, x.m.lp, x.m.pb}) {
		x.t.Fatalf("settings %v; by the model %d %d %d", x.s.settings, x.m.lc, x.m.lp, x.m.pb)
	}
	held := min(len(x.l.all), x.l.size)
	for back := range held + 2 {
		if back > 1<<16 && back < held-100 {
			continue
		}
		got, ok := x.w.At(back)
		if want := back > 0 && x.l.refuses(int64(back)) == api.OK; ok != want || ok && got != x.l.at(int64(back)) {
			x.t.Fatalf("the byte %d back is %d, %v", back, got, ok)
		}
	}
}

// tells looks that what the pen laid is read as what it was.
func (x *pair) tells(p *pen) *pair {
	x.t.Helper()
	told, e := x.asks(p.total, p.close(), len(p.told))
	if e != api.OK || !bytes.Equal(told, p.told) {
		x.t.Fatalf("a chunk of %.80q is read as %.80q, %d", p.told, told, int(e))
	}
	return x
}

// refuses looks for an error of what the pen laid, if n bytes are asked for.
func (x *pair) refuses(p *pen, n int, want api.Errno) *pair {
	x.t.Helper()
	if _, e := x.asks(p.total, p.close(), n); e != want {
		x.t.Fatalf("%d bytes of a chunk of %.80q: error %d, not %d", n, p.told, int(e), int(want))
	}
	return x
}

// some lays operations of all kinds, until at least n bytes are told.
func (p *pen) some(r *rand.Rand, n int) *pen {
	for len(p.told) < n {
		which, far := r.Intn(4), uint32(r.Int63n(1<<r.Intn(22)))
		length := 2 + r.Intn([]int{2, 8, 16, 272}[r.Intn(4)])
		switch k := r.Intn(8); {
		case k < 2 && p.reaches(far):
			p.put(matchOf(far, length))
		case k == 2 && p.reaches(p.m.rep[0]):
			p.put(shortOf())
		case k < 5 && p.reaches(p.m.rep[which]):
			p.put(repeatOf(which, length))
		default:
			p.put(byteOf(byte(r.Intn(1 << r.Intn(9)))))
		}
	}
	return p
}
