package tail

import (
	"bytes"
	"math"
	"math/rand"
	"testing"

	"baler/api"
)

// model is a tail by the chapter's words alone: its bits one by one, and how far a reader went back.
type model struct {
	row  []uint64
	left int
}

func modelOf(b []byte) *model {
	var row []uint64
	for _, x := range b {
		for range 8 {
			row = append(row, uint64(x%2))
			x /= 2
		}
	}
	for row[len(row)-1] == 0 {
		row = row[:len(row)-1]
	}
	row = row[:len(row)-1]
	return &model{row: row, left: len(row)}
}

func (m *model) bits(n int) uint64 {
	if n < 0 {
		n = 0
	}
	if n > 56 {
		n = 56
	}
	m.left -= n
	x, worth := uint64(0), uint64(1)
	for i := m.left; i < m.left+n; i++ {
		if i >= 0 {
			x += m.row[i] * worth
		}
		worth *= 2
	}
	return x
}

func open(t *testing.T, b ...byte) *Reader {
	t.Helper()
	r, e := New(b)
	if e != api.OK || r == nil {
		t.Fatalf("New(% x) = %v, %v", b, r, e)
	}
	return r
}

func wantBits(t *testing.T, r *Reader, n int, v uint64, left int) {
	t.Helper()
	if got := r.Bits(n); got != v || r.Left() != left {
		t.Fatalf("Bits(%d) = %#x, Left %d; want %#x, %d", n, got, r.Left(), v, left)
	}
}

func put(t *testing.T, w *Writer, x uint64, n int) {
	t.Helper()
	if e := w.Put(x, n); e != api.OK {
		t.Fatalf("Put(%d, %d) = %v", x, n, e)
	}
}

func wantClose(t *testing.T, w *Writer, want ...byte) {
	t.Helper()
	if got := w.Close(); !bytes.Equal(got, want) {
		t.Fatalf("Close = % x; want % x", got, want)
	}
}

func noise(seed int64, n int) []byte {
	b := make([]byte, n)
	rand.New(rand.NewSource(seed)).Read(b)
	return b
}

func TestExamples(t *testing.T) {
	w := &Writer{}
	put(t, w, 2, 2)
	put(t, w, 5, 3)
	wantClose(t, w, 0x36)

	r := open(t, 0x36)
	wantBits(t, r, 3, 5, 2)
	wantBits(t, r, 2, 2, 0)
	wantBits(t, r, 4, 0, -4)

	if got := open(t, 0x01).Left(); got != 0 {
		t.Fatal(got)
	}
}

// P3.1
func TestNewRefusesWhatHasNoMark(t *testing.T) {
	for _, b := range [][]byte{nil, {}, {0}, {0, 0}, {1, 0}, {0xff, 0xff, 0}} {
		if r, e := New(b); r != nil || e != api.ErrMalformed {
			t.Errorf("New(% x) = %v, %v", b, r, e)
		}
	}
}

// P3.1: the mark may be each bit of the last byte, whatever lies below it.
func TestNewStandsBehindTheLastBit(t *testing.T) {
	for n := range 4 {
		for last := 1; last < 256; last++ {
			b := append(noise(int64(n), n), byte(last))
			r, m := open(t, b...), modelOf(b)
			if r.Left() != m.left {
				t.Fatalf("New(% x): Left = %d; want %d", b, r.Left(), m.left)
			}
			for range len(m.row) + 2 {
				v := m.bits(1)
				wantBits(t, r, 1, v, m.left)
			}
		}
	}
}

// P3.1, P3.2: the lowest and the highest bit as the mark.
func TestMarkAtTheEdges(t *testing.T) {
	r := open(t, 0xa5, 0x01)
	wantBits(t, r, 8, 0xa5, 0)
	r = open(t, 0x80)
	wantBits(t, r, 7, 0, 0)
	r = open(t, 0xff)
	wantBits(t, r, 7, 0x7f, 0)
	r = open(t, 0x00, 0x80)
	wantBits(t, r, 15, 0, 0)
}

// P3.1, R3: neither what is handed in nor the room behind its end is kept or changed.
func TestNewKeepsNothing(t *testing.T) {
	room := []byte{0x11, 0x22, 0x33, 0x44}
	r := open(t, room[:2]...)
	wantBits(t, r, 4, 0x1, 9)
	if !bytes.Equal(room, []byte{0x11, 0x22, 0x33, 0x44}) {
		t.Fatalf("changed: % x", room)
	}

	r, _ = New(room[:3])
	wantBits(t, r, 5, 0x13, 16)
	copy(room, []byte{0xff, 0xff, 0xff, 0xff})
	wantBits(t, r, 16, 0x2211, 0)
}

// P3.2: n is brought into 0 to 56.
func TestBitsBringsItsNumberIn(t *testing.T) {
	b := append(noise(7, 20), 0x01)
	for _, n := range []int{math.MinInt, -57, -1, 0, 1, 2, 7, 8, 9, 31, 32, 33, 55, 56, 57, 58, 64, 1 << 40, math.MaxInt} {
		r, m := open(t, b...), modelOf(b)
		for range 4 {
			v := m.bits(n)
			wantBits(t, r, n, v, m.left)
		}
	}
}

// P3.2: each number of bits from each place, within the tail, over its first bit, and wholly ahead of it.
func TestBitsFromEachPlace(t *testing.T) {
	b := append(noise(8, 9), 0x17)
	whole := len(modelOf(b).row)
	for skip := range whole + 60 {
		for n := range 58 {
			r, m := open(t, b...), modelOf(b)
			for range skip {
				r.Bits(1)
				m.bits(1)
			}
			v := m.bits(n)
			wantBits(t, r, n, v, m.left)
		}
	}
}

// P3.2, P3.3: reads that end at the tail's first bit, lead over it, and lie ahead of it.
func TestBitsAheadOfTheFirst(t *testing.T) {
	r := open(t, 0xff, 0x03)
	wantBits(t, r, 9, 0x1ff, 0)

	r = open(t, 0xff, 0x03)
	wantBits(t, r, 12, 0xff8, -3)
	wantBits(t, r, 56, 0, -59)

	r = open(t, 0xff, 0x03)
	wantBits(t, r, 56, 0x1ff<<47, -47)
	wantBits(t, r, 0, 0, -47)
	wantBits(t, r, -1, 0, -47)
	wantBits(t, r, 1, 0, -48)

	r = open(t, 0x01)
	wantBits(t, r, 0, 0, 0)
	wantBits(t, r, 1, 0, -1)
	wantBits(t, r, 57, 0, -57)
}

// P3.2: whatever was read, in whatever portions.
func TestBitsInPortions(t *testing.T) {
	c := rand.New(rand.NewSource(9))
	for k := range 2000 {
		b := append(noise(int64(k), c.Intn(40)), byte(1+c.Intn(255)))
		r, m := open(t, b...), modelOf(b)
		for m.left > -100 {
			n := c.Intn(70) - 5
			v := m.bits(n)
			wantBits(t, r, n, v, m.left)
		}
	}
}

// P3.3: asking changes nothing.
func TestLeftChangesNothing(t *testing.T) {
	r := open(t, 0x36)
	for range 3 {
		if r.Left() != 5 {
			t.Fatal(r.Left())
		}
	}
	wantBits(t, r, 5, 0x16, 0)
}

// P3.3: the bound of 2^40 is some 2^34 calls away, so the reader is set close to it.
func TestLeftHasABound(t *testing.T) {
	const bound = -1 << 40
	r := open(t, 0x36)
	wantBits(t, r, 5, 0x16, 0)
	r.p.ahead = -bound - 57
	wantBits(t, r, 56, 0, bound+1)
	wantBits(t, r, 0, 0, bound+1)
	wantBits(t, r, 1, 0, bound)
	wantBits(t, r, 1, 0, bound)
	r.p.ahead = -bound - 3
	wantBits(t, r, 56, 0, bound)
	wantBits(t, r, 56, 0, bound)
}

// P3.2, P3.3, R2: readers of the same bytes don't touch one another.
func TestReadersStandApart(t *testing.T) {
	b := []byte{0x36, 0x5a, 0x11}
	one, two := open(t, b...), open(t, b...)
	wantBits(t, one, 10, 0x15a36>>10, 10)
	wantBits(t, two, 4, 0x1, 16)
	wantBits(t, one, 10, 0x236, 0)
	wantBits(t, two, 16, 0x5a36, 0)
}

// P3.4
func TestPutTakesTheLowestBits(t *testing.T) {
	for n := range 57 {
		for _, x := range []uint64{0, 1, 0x5555555555555555, 0xaaaaaaaaaaaaaaaa, 1 << 55, 1 << 56, math.MaxUint64} {
			w := &Writer{}
			put(t, w, x, n)
			r := open(t, w.Close()...)
			if r.Left() != n {
				t.Fatalf("Put(%#x, %d): Left = %d", x, n, r.Left())
			}
			want := x
			for i := n; i < 64; i++ {
				want &^= 1 << i
			}
			wantBits(t, r, n, want, 0)
		}
	}
}

// P3.4
func TestPutBehindOneAnother(t *testing.T) {
	w := &Writer{}
	put(t, w, 0xabcdef0123456789, 56)
	wantClose(t, w, 0x89, 0x67, 0x45, 0x23, 0x01, 0xef, 0xcd, 0x01)
	put(t, w, 0xff, 0)
	put(t, w, 0xfe, 1)
	put(t, w, 0xff, 1)
	put(t, w, 0xffff, 5)
	wantClose(t, w, 0xfe)
	put(t, w, 0x00, 1)
	put(t, w, 0x7f, 7)
	wantClose(t, w, 0xfe, 0x01)
}

// P3.4, R4: what is refused leaves nothing behind.
func TestPutRefuses(t *testing.T) {
	w := &Writer{}
	put(t, w, 2, 2)
	for _, n := range []int{math.MinInt, -57, -1, 57, 58, 64, math.MaxInt} {
		if e := w.Put(math.MaxUint64, n); e != api.ErrArg {
			t.Errorf("Put(_, %d) = %v", n, e)
		}
	}
	put(t, w, 5, 3)
	wantClose(t, w, 0x36)
}

// P3.5: at each number of bits the mark stands directly behind them, and 0s behind the mark.
func TestCloseSetsTheMark(t *testing.T) {
	for n := range 130 {
		w := &Writer{}
		want := make([]byte, n/8+1)
		for i := range n {
			bit := uint64(i*i/3) % 2
			put(t, w, bit, 1)
			want[i/8] += byte(bit) * (1 << (i % 8))
		}
		want[n/8] += 1 << (n % 8)
		wantClose(t, w, want...)
	}
}

// P3.5
func TestCloseEmpties(t *testing.T) {
	w := &Writer{}
	wantClose(t, w, 0x01)
	wantClose(t, w, 0x01)
	put(t, w, math.MaxUint64, 13)
	wantClose(t, w, 0xff, 0x3f)
	wantClose(t, w, 0x01)
	put(t, w, 0, 3)
	wantClose(t, w, 0x08)
	put(t, w, 5, 3)
	wantClose(t, w, 0x0d)
}

// P3.5, R3: what was handed out is the caller's, with the room behind it.
func TestCloseGivesNewMemory(t *testing.T) {
	w := &Writer{}
	put(t, w, 0x123456, 24)
	first := w.Close()
	put(t, w, 0x654321, 24)
	if !bytes.Equal(first, []byte{0x56, 0x34, 0x12, 0x01}) {
		t.Fatalf("% x", first)
	}
	room := first[:cap(first)]
	for i := range room {
		room[i] = 0xee
	}
	second := w.Close()
	if !bytes.Equal(second, []byte{0x21, 0x43, 0x65, 0x01}) {
		t.Fatalf("% x", second)
	}
	for i := range room {
		if room[i] != 0xee {
			t.Fatalf("byte %d of what was handed out was written: %#x", i, room[i])
		}
	}
}

// P3.6
func TestWhatWasPutLastIsReadFirst(t *testing.T) {
	type item struct {
		x uint64
		n int
	}
	c := rand.New(rand.NewSource(36))
	w := &Writer{}
	for range 500 {
		items := make([]item, c.Intn(60))
		for i := range items {
			n := c.Intn(57)
			items[i] = item{c.Uint64() & (1<<n - 1), n}
			put(t, w, items[i].x|c.Uint64()<<n, n)
		}
		r := open(t, w.Close()...)
		left := r.Left()
		for i := len(items) - 1; i >= 0; i-- {
			left -= items[i].n
			wantBits(t, r, items[i].n, items[i].x, left)
		}
		if left != 0 {
			t.Fatalf("Left = %d behind all that was put", left)
		}
	}
}

// R1
func TestNilObjects(t *testing.T) {
	var r *Reader
	for _, n := range []int{math.MinInt, -1, 0, 1, 56, 57, math.MaxInt} {
		if x := r.Bits(n); x != 0 {
			t.Errorf("Bits(%d) = %d", n, x)
		}
	}
	if r.Left() != 0 {
		t.Error(r.Left())
	}
	var w *Writer
	for _, n := range []int{math.MinInt, -1, 0, 1, 56, 57, math.MaxInt} {
		if e := w.Put(1, n); e != api.ErrNil {
			t.Errorf("Put(1, %d) = %v", n, e)
		}
	}
	if b := w.Close(); len(b) != 0 {
		t.Errorf("Close = % x", b)
	}
}

// The iterators may be left at any bit (R9).
func TestIteratorsMayBeLeft(t *testing.T) {
	for bit := range backwards([]byte{0x36}, 5, 0) {
		if bit != 1 {
			t.Fatal(bit)
		}
		break
	}
	for bit := range lowest(5, 3) {
		if bit != 1 {
			t.Fatal(bit)
		}
		break
	}
}

func BenchmarkBits(b *testing.B) {
	text := append(noise(1, 1<<16), 1)
	b.SetBytes(int64(len(text)))
	for range b.N {
		r, _ := New(text)
		for r.Left() > 0 {
			r.Bits(11)
		}
	}
}

func BenchmarkPut(b *testing.B) {
	w := &Writer{}
	b.SetBytes(1 << 16)
	for range b.N {
		for range (1 << 19) / 11 {
			w.Put(1234, 11)
		}
		w.Close()
	}
}
