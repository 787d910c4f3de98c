package bits

import (
	"bytes"
	"math/rand"
	"testing"

	"baler/api"
)

// rowOf spells the bits of b by the chapter's words alone, so that the tests hold the package against something else than itself.
func rowOf(b []byte) []uint64 {
	var out []uint64
	for _, x := range b {
		for range 8 {
			out = append(out, uint64(x%2))
			x /= 2
		}
	}
	return out
}

func numberOf(row []uint64) uint64 {
	x, worth := uint64(0), uint64(1)
	for _, bit := range row {
		x += bit * worth
		worth *= 2
	}
	return x
}

func wantBits(t *testing.T, r *Reader, n int, v uint64, e api.Errno) {
	t.Helper()
	before := r.Left()
	gotV, gotE := r.Bits(n)
	if gotV != v || gotE != e {
		t.Fatalf("Bits(%d) = %d, %v; want %d, %v", n, gotV, gotE, v, e)
	}
	if e == api.OK {
		before -= n
	}
	if r.Left() != before {
		t.Fatalf("behind Bits(%d), %v: Left = %d; want %d", n, e, r.Left(), before)
	}
}

func wantAlign(t *testing.T, r *Reader, v uint64, left int) {
	t.Helper()
	gotV, e := r.Align()
	if gotV != v || e != api.OK || r.Left() != left {
		t.Fatalf("Align = %d, %v, Left %d; want %d, OK, %d", gotV, e, r.Left(), v, left)
	}
}

func wantBytes(t *testing.T, w *Writer, want ...byte) {
	t.Helper()
	if got := w.Bytes(); !bytes.Equal(got, want) {
		t.Fatalf("Bytes = % x; want % x", got, want)
	}
}

func put(t *testing.T, w *Writer, x uint64, n int) {
	t.Helper()
	if e := w.Put(x, n); e != api.OK {
		t.Fatalf("Put(%d, %d) = %v", x, n, e)
	}
}

func TestExamples(t *testing.T) {
	r := New([]byte{0xb4, 0x01})
	wantBits(t, r, 3, 4, api.OK)
	wantBits(t, r, 6, 54, api.OK)
	if r.Left() != 7 {
		t.Fatal(r.Left())
	}
	wantAlign(t, r, 0, 0)
	wantBits(t, r, 1, 0, api.ErrTruncated)
	wantBits(t, r, 57, 0, api.ErrArg)
	wantBits(t, r, -1, 0, api.ErrArg)

	w := &Writer{}
	put(t, w, 5, 3)
	put(t, w, 1, 6)
	wantBytes(t, w, 0x0d, 0x00)
	if e := w.Put(0, 57); e != api.ErrArg {
		t.Fatal(e)
	}
}

// P1.1
func TestNewBeginsAtBitZero(t *testing.T) {
	for _, b := range [][]byte{nil, {}, {1}, {0x80}, {0xfe, 0x01, 0x7f}} {
		r := New(b)
		if r == nil || r.Left() != 8*len(b) {
			t.Fatalf("New(% x): %v", b, r)
		}
		for i, bit := range rowOf(b) {
			if v, e := r.Bits(1); v != bit || e != api.OK {
				t.Fatalf("New(% x): bit %d = %d, %v; want %d", b, i, v, e, bit)
			}
		}
	}
}

// P1.1, R3: neither what is handed in nor the room behind its end is kept or changed.
func TestNewKeepsNothing(t *testing.T) {
	room := []byte{0x11, 0x22, 0x33, 0x44}
	r := New(room[:2])
	wantBits(t, r, 4, 1, api.OK)
	copy(room, []byte{0xff, 0xff, 0xff, 0xff})
	wantBits(t, r, 12, 0x221, api.OK)
	wantBits(t, r, 1, 0, api.ErrTruncated)
	if !bytes.Equal(room, []byte{0xff, 0xff, 0xff, 0xff}) {
		t.Fatalf("% x", room)
	}
}

func TestReadingChangesNothing(t *testing.T) {
	b := []byte{0x12, 0x34, 0x56}
	r := New(b)
	r.Bits(5)
	r.Align()
	r.Bits(16)
	if !bytes.Equal(b, []byte{0x12, 0x34, 0x56}) {
		t.Fatalf("% x", b)
	}
}

func TestReadersStandAlone(t *testing.T) {
	b := []byte{0xa5, 0x5a}
	one, other := New(b), New(b)
	wantBits(t, one, 9, 0xa5, api.OK)
	wantBits(t, other, 8, 0xa5, api.OK)
	wantBits(t, one, 7, 0x2d, api.OK)
	wantBits(t, other, 8, 0x5a, api.OK)
}

// P1.2: each n from 0 to 56, from each place of a byte on.
func TestBitsOfEachLength(t *testing.T) {
	b := []byte{0x9d, 0x3c, 0xe1, 0x07, 0xb8, 0x5f, 0xc2, 0x6a}
	row := rowOf(b)
	for skip := range 8 {
		for n := range 57 {
			r := New(b)
			wantBits(t, r, skip, numberOf(row[:skip]), api.OK)
			wantBits(t, r, n, numberOf(row[skip:skip+n]), api.OK)
		}
	}
}

func TestBitsAllOnes(t *testing.T) {
	r := New(bytes.Repeat([]byte{0xff}, 8))
	wantBits(t, r, 5, 31, api.OK)
	wantBits(t, r, 56, 1<<56-1, api.OK)
	wantBits(t, r, 3, 7, api.OK)
}

func TestBitsOfNone(t *testing.T) {
	for _, b := range [][]byte{nil, {}, {7}} {
		r := New(b)
		wantBits(t, r, 0, 0, api.OK)
		wantBits(t, r, 8*len(b), numberOf(rowOf(b)), api.OK)
		wantBits(t, r, 0, 0, api.OK)
	}
}

func TestBitsWrongLength(t *testing.T) {
	const most = int(^uint(0) >> 1)
	for _, n := range []int{-1, -8, 57, 64, most, -most - 1} {
		long := New(bytes.Repeat([]byte{0xc3}, 9))
		wantBits(t, long, 3, 3, api.OK)
		wantBits(t, long, n, 0, api.ErrArg)
		wantBits(t, long, 5, 0x18, api.OK)
		// R5: too few bits are left as well, but the length is named first.
		wantBits(t, New(nil), n, 0, api.ErrArg)
	}
}

// P1.2: just as many as are left, one less, one more; a reader that is refused stays.
func TestBitsAtTheEnd(t *testing.T) {
	b := []byte{0x9d, 0x3c, 0xe1, 0x07, 0xb8, 0x5f, 0xc2}
	row := rowOf(b)
	for at := range row {
		left := len(row) - at
		for _, n := range []int{left - 1, left} {
			r := readerAt(t, b, at)
			wantBits(t, r, n, numberOf(row[at:at+n]), api.OK)
		}
		if left < 56 {
			r := readerAt(t, b, at)
			wantBits(t, r, left+1, 0, api.ErrTruncated)
			wantBits(t, r, 56, 0, api.ErrTruncated)
			wantBits(t, r, left, numberOf(row[at:]), api.OK)
			wantBits(t, r, 1, 0, api.ErrTruncated)
		}
	}
}

func readerAt(t *testing.T, b []byte, at int) *Reader {
	t.Helper()
	r := New(b)
	for range at {
		if _, e := r.Bits(1); e != api.OK {
			t.Fatal(e)
		}
	}
	return r
}

// P1.3: from each place of each byte on, the last byte too.
func TestReaderAlign(t *testing.T) {
	b := []byte{0xb6, 0x4d, 0xf9}
	row := rowOf(b)
	for at := range len(row) + 1 {
		next := (at + 7) / 8 * 8
		r := readerAt(t, b, at)
		wantAlign(t, r, numberOf(row[at:next]), len(row)-next)
		wantAlign(t, r, 0, len(row)-next)
		if next < len(row) {
			wantBits(t, r, 8, uint64(b[next/8]), api.OK)
		}
	}
	wantAlign(t, New(nil), 0, 0)
}

// P1.4
func TestLeft(t *testing.T) {
	r := New(make([]byte, 3))
	for want := 24; want > 0; want-- {
		if r.Left() != want || r.Left() != want {
			t.Fatalf("Left = %d; want %d", r.Left(), want)
		}
		wantBits(t, r, 1, 0, api.OK)
	}
	if r.Left() != 0 {
		t.Fatal(r.Left())
	}
}

// R1
func TestNilReader(t *testing.T) {
	var r *Reader
	for _, n := range []int{0, 1, 56, 57, -1} {
		if v, e := r.Bits(n); v != 0 || e != api.ErrNil {
			t.Errorf("Bits(%d) = %d, %v", n, v, e)
		}
	}
	if v, e := r.Align(); v != 0 || e != api.ErrNil {
		t.Errorf("Align = %d, %v", v, e)
	}
	if r.Left() != 0 {
		t.Errorf("Left = %d", r.Left())
	}
}

// P1.5: each n from 0 to 56, at each place of a byte; what stands above the lowest n bits is left out.
func TestPutOfEachLength(t *testing.T) {
	const x = 0xf3a5_9c6e_1d87_b24f
	for skip := range 8 {
		for n := range 57 {
			w := &Writer{}
			put(t, w, ^uint64(0), skip)
			put(t, w, x, n)
			row := rowOf(w.Bytes())
			if len(row) != (skip+n+7)/8*8 {
				t.Fatalf("skip %d, n %d: %d bits", skip, n, len(row))
			}
			if numberOf(row[:skip]) != 1<<skip-1 || numberOf(row[skip:skip+n]) != x&(1<<n-1) || numberOf(row[skip+n:]) != 0 {
				t.Fatalf("skip %d, n %d: % x", skip, n, w.Bytes())
			}
		}
	}
}

func TestPutWrongLength(t *testing.T) {
	const most = int(^uint(0) >> 1)
	for _, n := range []int{-1, -8, 57, 64, most, -most - 1} {
		w := &Writer{}
		if e := w.Put(1, n); e != api.ErrArg {
			t.Fatalf("Put(1, %d) = %v", n, e)
		}
		wantBytes(t, w)
		put(t, w, 5, 3)
		if e := w.Put(^uint64(0), n); e != api.ErrArg {
			t.Fatalf("Put(.., %d) = %v", n, e)
		}
		wantBytes(t, w, 5)
		put(t, w, 1, 6)
		wantBytes(t, w, 0x0d, 0)
	}
}

// P1.6
func TestWriterAlign(t *testing.T) {
	for n := range 17 {
		w := &Writer{}
		put(t, w, 1<<n-1, n)
		before := w.Bytes()
		w.Align()
		wantBytes(t, w, before...)
		w.Align()
		wantBytes(t, w, before...)
		put(t, w, 0xe7, 8)
		wantBytes(t, w, append(bytes.Clone(before), 0xe7)...)
	}
}

func TestBytesOfNone(t *testing.T) {
	var w Writer
	wantBytes(t, &w)
	w.Align()
	put(t, &w, 9, 0)
	wantBytes(t, &w)
}

func TestBytesLastNotFull(t *testing.T) {
	w := &Writer{}
	put(t, w, ^uint64(0), 11)
	wantBytes(t, w, 0xff, 0x07)
	put(t, w, 0, 1)
	put(t, w, 1, 1)
	wantBytes(t, w, 0xff, 0x17)
}

// P1.6, R3: no answer shows what was written into another one, nor does the writer.
func TestBytesNewMemory(t *testing.T) {
	w := &Writer{}
	put(t, w, 0x1234, 13)
	first, second := w.Bytes(), w.Bytes()
	for i := range first {
		first[i] = 0xff
	}
	_ = append(first, 0xff, 0xff)
	if !bytes.Equal(second, []byte{0x34, 0x12}) {
		t.Fatalf("% x", second)
	}
	wantBytes(t, w, 0x34, 0x12)
	put(t, w, 7, 3)
	wantBytes(t, w, 0x34, 0xf2)
	if !bytes.Equal(second, []byte{0x34, 0x12}) {
		t.Fatalf("% x", second)
	}
}

// R1
func TestNilWriter(t *testing.T) {
	var w *Writer
	for _, n := range []int{0, 1, 56, 57, -1} {
		if e := w.Put(1, n); e != api.ErrNil {
			t.Errorf("Put(1, %d) = %v", n, e)
		}
	}
	w.Align()
	if b := w.Bytes(); len(b) != 0 {
		t.Errorf("% x", b)
	}
}

// P1.7: portions of any lengths, aligned now and then, come back as they were put.
func TestPutIsRead(t *testing.T) {
	for seed := range int64(200) {
		roll := rand.New(rand.NewSource(seed))
		type portion struct {
			x     uint64
			n     int
			align bool
		}
		w, portions := &Writer{}, []portion(nil)
		for range roll.Intn(60) {
			p := portion{roll.Uint64(), roll.Intn(57), roll.Intn(5) == 0}
			portions = append(portions, p)
			put(t, w, p.x, p.n)
			if p.align {
				w.Align()
			}
		}
		r := New(w.Bytes())
		for _, p := range portions {
			wantBits(t, r, p.n, p.x&(1<<p.n-1), api.OK)
			if p.align {
				wantAlign(t, r, 0, r.Left()/8*8)
			}
		}
		if left := r.Left(); left > 7 {
			t.Fatalf("seed %d: %d bits left", seed, left)
		}
		wantAlign(t, r, 0, 0)
	}
}

// P1.7: reading in other portions tells the same bits.
func TestOtherPortions(t *testing.T) {
	for seed := range int64(100) {
		roll := rand.New(rand.NewSource(seed))
		b := make([]byte, roll.Intn(80))
		roll.Read(b)
		row, w, r := rowOf(b), &Writer{}, New(b)
		for r.Left() > 0 {
			n := min(roll.Intn(57), r.Left())
			at := len(row) - r.Left()
			wantBits(t, r, n, numberOf(row[at:at+n]), api.OK)
			put(t, w, numberOf(row[at:at+n]), n)
		}
		wantBytes(t, w, b...)
	}
}

// Whoever goes over bits may leave at any of them.
func TestIteratorsMayBeLeft(t *testing.T) {
	bitsOfRow := row([]byte{0x04}, 0, 8)
	for range 2 {
		for k, bit := range bitsOfRow {
			if bit == 1 {
				if k != 2 {
					t.Fatal(k)
				}
				break
			}
		}
	}
	count := 0
	for bit := range lowest(0x04, 8) {
		if count++; bit == 1 {
			break
		}
	}
	if count != 3 {
		t.Fatal(count)
	}
}

func BenchmarkBits(b *testing.B) {
	data := make([]byte, 1<<16)
	b.SetBytes(int64(len(data)))
	for b.Loop() {
		r := New(data)
		for r.Left() >= 13 {
			r.Bits(13)
		}
	}
}

func BenchmarkPut(b *testing.B) {
	b.SetBytes(1 << 16)
	for b.Loop() {
		w := &Writer{}
		for range 1 << 19 / 13 {
			w.Put(0x155, 13)
		}
	}
}
