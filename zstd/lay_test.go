package zstd_test

import (
	"bytes"
	"slices"
	"testing"

	"baler/api"
	"baler/literals"
	"baler/sequences"
	"baler/states"
	"baler/sums"
)

// What stands here lays members by hand, as the chapter's words have them.

// low gives a number in so many bytes, the lowest one first.
func low(n uint64, size int) (b []byte) {
	for range size {
		b = append(b, byte(n%256))
		n /= 256
	}
	return b
}

// shape is how a frame's head is laid.
type shape struct {
	form   int    // of the content's size
	size   uint64 // the content's, if the form tells one
	single bool
	fourth bool // bit 4
	third  bool // bit 3
	sum    bool
	dict   int    // the form of the dictionary's number
	number uint64 // the dictionary's
	window byte   // if not single
}

func bit(on bool, worth int) int {
	if on {
		return worth
	}
	return 0
}

// sizeBytes tells how many bytes the content's size has.
func (s shape) sizeBytes() int {
	if s.form == 0 && s.single {
		return 1
	}
	return []int{0, 2, 4, 8}[s.form]
}

func (s shape) head() []byte {
	d := s.form*64 + bit(s.single, 32) + bit(s.fourth, 16) + bit(s.third, 8) + bit(s.sum, 4) + s.dict
	b := []byte{0x28, 0xb5, 0x2f, 0xfd, byte(d)}
	if !s.single {
		b = append(b, s.window)
	}
	b = append(b, low(s.number, []int{0, 1, 2, 4}[s.dict])...)
	told := s.size
	if s.form == 1 {
		told -= 256
	}
	return append(b, low(told, s.sizeBytes())...)
}

// laid is a block: its kind, its size as it is told, and what stands behind these.
type laid struct {
	kind, size int
	body       []byte
}

func rawOf(text string) laid {
	return laid{0, len(text), []byte(text)}
}

func alikeOf(c byte, n int) laid {
	return laid{1, n, []byte{c}}
}

func packedOf(sections ...[]byte) laid {
	b := slices.Concat(sections...)
	return laid{2, len(b), b}
}

func (l laid) bytes(last bool) []byte {
	return append(low(uint64(l.size*8+l.kind*2+bit(last, 1)), 3), l.body...)
}

// begun lays a frame whose last block is still to come.
func (s shape) begun(blocks ...laid) []byte {
	b := s.head()
	for _, l := range blocks {
		b = append(b, l.bytes(false)...)
	}
	return b
}

// frame lays a frame of some blocks, and behind them the sum of its content, if there is to be one.
func (s shape) frame(content []byte, blocks ...laid) []byte {
	n := len(blocks) - 1
	b := append(s.begun(blocks[:n]...), blocks[n].bytes(true)...)
	if s.sum {
		b = append(b, low(sums.XXH64(content), 4)...)
	}
	return b
}

// skippable lays a skippable frame of one of the sixteen numbers.
func skippable(which int, text string) []byte {
	return slices.Concat([]byte{byte(0x50 + which), 0x2a, 0x4d, 0x18}, low(uint64(len(text)), 4), []byte(text))
}

// rawLits is a literals section of bytes as they are.
func rawLits(text string) []byte {
	return append(low(uint64(12+len(text)*16), 3), text...)
}

// litsOf is a literals section of package literals, and the weights behind it.
func litsOf(t *testing.T, lits, ahead []byte) (b []byte, next []uint8) {
	t.Helper()
	b, next, e := literals.Write(lits, ahead)
	if e != api.OK {
		t.Fatalf("literals.Write: %d", int(e))
	}
	return b, next
}

// stepsOf is a sequences section of package sequences.
func stepsOf(t *testing.T, l ...api.Seq) []byte {
	t.Helper()
	b, e := sequences.Write(l)
	if e != api.OK {
		t.Fatalf("sequences.Write(%v): %d", l, int(e))
	}
	return b
}

// tableParts cuts a sequences section: what stands ahead of its kinds, the bytes of its three tables, and its tail.
func tableParts(t *testing.T, b []byte) (number []byte, kinds byte, tables [3][]byte, tail []byte) {
	t.Helper()
	n := 1
	switch {
	case b[0] == 255:
		n = 3
	case b[0] >= 128:
		n = 2
	}
	number, kinds, tail = b[:n], b[n], b[n+1:]
	for k, most := range [3][2]int{{9, 35}, {8, 31}, {9, 52}} {
		size := 0
		switch kindOf(kinds, k) {
		case 1:
			size = 1
		case 2:
			var e api.Errno
			if _, _, size, e = states.Read(tail, most[0], most[1]); e != api.OK {
				t.Fatalf("% x is no table: %d", tail, int(e))
			}
		}
		tables[k], tail = tail[:size], tail[size:]
	}
	return number, kinds, tables, tail
}

// kindOf tells the kind of a table, of the three in their order.
func kindOf(kinds byte, k int) int {
	return int(kinds) >> (6 - 2*k) % 4
}

// leaning gives a section of the same steps that takes those of its three tables from ahead which a mask names (bit k the k-th).
func leaning(t *testing.T, section []byte, mask int) []byte {
	t.Helper()
	number, kinds, tables, tail := tableParts(t, section)
	for k := range tables {
		if mask>>k%2 == 1 {
			kinds, tables[k] = kinds|3<<(6-2*k), nil
		}
	}
	return slices.Concat(number, []byte{kinds}, tables[0], tables[1], tables[2], tail)
}

// meant tells what a packed block puts behind a content, byte by byte; rep are the distances that are kept.
func meant(t *testing.T, content []byte, rep *[3]int, lits []byte, l ...api.Seq) []byte {
	t.Helper()
	all := slices.Clone(content)
	for _, s := range l {
		all, lits = append(all, lits[:s.Lits]...), lits[s.Lits:]
		distance, e := sequences.Value(rep, s.Lits, s.Back)
		if e != api.OK || distance > len(all) {
			t.Fatalf("%v: %d, %d", s, distance, int(e))
		}
		for range s.Match {
			all = append(all, all[len(all)-distance])
		}
	}
	return append(all, lits...)
}

// pen lays blocks one behind the other, and keeps what they tell.
type pen struct {
	t       *testing.T
	content []byte
	rep     [3]int
	weights []uint8
	blocks  []laid
}

func newPen(t *testing.T) *pen {
	return &pen{t: t, rep: [3]int{1, 4, 8}}
}

func (p *pen) raw(text string) {
	p.blocks = append(p.blocks, rawOf(text))
	p.content = append(p.content, text...)
}

func (p *pen) alike(c byte, n int) {
	p.blocks = append(p.blocks, alikeOf(c, n))
	p.content = append(p.content, bytes.Repeat([]byte{c}, n)...)
}

// packed lays a packed block, and tells of which kind its literals are.
func (p *pen) packed(lits []byte, l ...api.Seq) (kind int) {
	p.t.Helper()
	return p.packedBy(lits, stepsOf(p.t, l...), l...)
}

// packedBy lays a packed block with a section that tells these steps.
func (p *pen) packedBy(lits, section []byte, l ...api.Seq) (kind int) {
	p.t.Helper()
	b, next := litsOf(p.t, lits, p.weights)
	p.weights = next
	p.blocks = append(p.blocks, packedOf(b, section))
	p.content = meant(p.t, p.content, &p.rep, lits, l...)
	return int(b[0]) % 4
}

func (p *pen) frame(s shape) []byte {
	return s.frame(p.content, p.blocks...)
}
