package window

import (
	"bytes"
	"math"
	"math/rand"
	"testing"

	"baler/api"
	"baler/ledger"
)

const top = 1 << 24

// model is a window by the chapter's words alone: a plain list of all the bytes that were put.
type model struct {
	size    int
	all     []byte
	dropped bool
}

func (m *model) put(b []byte) {
	if !m.dropped {
		m.all = append(m.all, b...)
	}
}

func (m *model) refuses(back, n int) api.Errno {
	if m.dropped {
		return api.ErrNone
	}
	if n < 0 || n > top {
		return api.ErrArg
	}
	if back < 1 || back > m.size || back > len(m.all) {
		return api.ErrMalformed
	}
	return api.OK
}

func (m *model) copied(back, n int) ([]byte, api.Errno) {
	if e := m.refuses(back, n); e != api.OK {
		return nil, e
	}
	for range n {
		m.all = append(m.all, m.all[len(m.all)-back])
	}
	return m.all[len(m.all)-n:], api.OK
}

func (m *model) at(back int) (byte, bool) {
	if m.refuses(back, 1) != api.OK {
		return 0, false
	}
	return m.all[len(m.all)-back], true
}

// pair is a window and the list that it is held against.
type pair struct {
	t *testing.T
	w *Window
	m *model
}

func pairOf(t *testing.T, size int) *pair {
	t.Helper()
	return &pair{t, made(t, size, ledger.New(size)), &model{size: size}}
}

func made(t *testing.T, size int, l *ledger.Ledger) *Window {
	t.Helper()
	w, e := New(size, l)
	if e != api.OK || w == nil {
		t.Fatalf("New(%d) = %v, %d", size, w, int(e))
	}
	return w
}

func (p *pair) put(b []byte) {
	p.w.Put(b)
	p.m.put(b)
}

func (p *pair) copied(back, n int) {
	p.t.Helper()
	want, wantErr := p.m.copied(back, n)
	got, e := p.w.Copy(back, n)
	if e != wantErr || !bytes.Equal(got, want) {
		p.t.Fatalf("size %d: Copy(%d, %d) = %.60q, %d; want %.60q, %d", p.m.size, back, n, got, int(e), want, int(wantErr))
	}
}

// same asks at all places that there are, and at those around them.
func (p *pair) same() {
	p.t.Helper()
	for back := -2; back <= p.m.size+2; back++ {
		p.at(back)
	}
	p.at(math.MinInt)
	p.at(math.MaxInt)
}

func (p *pair) at(back int) {
	p.t.Helper()
	want, wantOK := p.m.at(back)
	if got, ok := p.w.At(back); got != want || ok != wantOK {
		p.t.Fatalf("size %d, %d put: At(%d) = %d, %v; want %d, %v", p.m.size, len(p.m.all), back, got, ok, want, wantOK)
	}
}

func copied(t *testing.T, w *Window, back, n int, want string, wantErr api.Errno) {
	t.Helper()
	got, e := w.Copy(back, n)
	if string(got) != want || e != wantErr {
		t.Fatalf("Copy(%d, %d) = %.60q, %d; want %.60q, %d", back, n, got, int(e), want, int(wantErr))
	}
}

func at(t *testing.T, w *Window, back int, want byte, wantOK bool) {
	t.Helper()
	if got, ok := w.At(back); got != want || ok != wantOK {
		t.Fatalf("At(%d) = %q, %v; want %q, %v", back, got, ok, want, wantOK)
	}
}

func held(t *testing.T, l *ledger.Ledger, now, most int) {
	t.Helper()
	if gotNow, gotMost := l.Held(); gotNow != now || gotMost != most {
		t.Fatalf("the ledger holds %d, at most %d; want %d, %d", gotNow, gotMost, now, most)
	}
}

// row is n bytes of which neighbours differ; with the next seed it begins a byte later.
func row(n, seed int) []byte {
	b := make([]byte, n)
	for i := range b {
		b[i] = byte((i+seed)*7 + (i+seed)/251)
	}
	return b
}

// The chapter's examples.
func TestExamples(t *testing.T) {
	w := made(t, 4, ledger.New(4))
	w.Put([]byte("abc"))
	copied(t, w, 2, 5, "bcbcb", api.OK)
	copied(t, w, 4, 1, "c", api.OK)
	copied(t, w, 5, 1, "", api.ErrMalformed)
	copied(t, w, 0, 1, "", api.ErrMalformed)

	l := ledger.New(4)
	w = made(t, 4, l)
	copied(t, w, 1, 0, "", api.ErrMalformed)
	w.Put([]byte("a"))
	copied(t, w, 1, 3, "aaa", api.OK)
	copied(t, w, 2, 2, "aa", api.OK)
	w.Drop()
	copied(t, w, 1, 1, "", api.ErrNone)
	if n := w.Held(); n != 0 {
		t.Errorf("Held = %d behind Drop", n)
	}
	w.Drop()
	held(t, l, 0, 4)
}

// P6.1: which sizes are taken, and what is charged.
func TestNewSizes(t *testing.T) {
	for _, size := range []int{1, 2, 3, 255, 256, 1<<16 + 1, top - 1, top} {
		l := ledger.New(top)
		w := made(t, size, l)
		held(t, l, size, size)
		if w.Held() != size {
			t.Errorf("New(%d): Held = %d", size, w.Held())
		}
		at(t, w, 1, 0, false)
		copied(t, w, 1, 1, "", api.ErrMalformed)
		w.Drop()
		held(t, l, 0, size)
	}
}

// P6.1, wrong sizes: ErrArg ahead of what the ledger says, and the ledger is as it was.
func TestNewWrongSizes(t *testing.T) {
	for _, size := range []int{0, -1, -top, top + 1, math.MinInt, math.MinInt + 1, math.MaxInt, math.MaxInt32, 1 << 32} {
		for _, l := range []*ledger.Ledger{nil, ledger.New(0), ledger.New(top)} {
			if w, e := New(size, l); w != nil || e != api.ErrArg {
				t.Errorf("New(%d) = %v, %d; want ErrArg", size, w, int(e))
			}
			held(t, l, 0, 0)
		}
	}
}

// P6.1: the ledger's own errors.
func TestNewHandsOnTheLedgersError(t *testing.T) {
	for _, size := range []int{1, 5, top} {
		if w, e := New(size, nil); w != nil || e != api.ErrNil {
			t.Errorf("New(%d, nil) = %v, %d; want ErrNil", size, w, int(e))
		}
		just := ledger.New(size)
		made(t, size, just)
		held(t, just, size, size)
		lacks := ledger.New(size - 1)
		if w, e := New(size, lacks); w != nil || e != api.ErrOverBudget {
			t.Errorf("New(%d) of a budget of %d = %v, %d; want ErrOverBudget", size, size-1, w, int(e))
		}
		held(t, lacks, 0, 0)
	}
}

// P6.1, P6.6: a window that is refused leaves the ledger as it was; what is given back can be held again.
func TestNewRefusedLeavesTheLedger(t *testing.T) {
	l := ledger.New(10)
	first := made(t, 4, l)
	if w, e := New(7, l); w != nil || e != api.ErrOverBudget {
		t.Fatalf("New(7) = %v, %d; want ErrOverBudget", w, int(e))
	}
	held(t, l, 4, 4)
	second := made(t, 6, l)
	held(t, l, 10, 10)
	if _, e := New(1, l); e != api.ErrOverBudget {
		t.Fatalf("New(1) = %d; want ErrOverBudget", int(e))
	}
	first.Drop()
	held(t, l, 6, 10)
	if second.Held() != 6 || first.Held() != 0 {
		t.Errorf("Held = %d, %d; want 0, 6", first.Held(), second.Held())
	}
	made(t, 4, l)
	held(t, l, 10, 10)
}

// P6.2: bytes are behind all that were put; pieces that are empty, as long as the window, longer, and over the ring's end.
func TestPutPieces(t *testing.T) {
	for size := 1; size <= 9; size++ {
		for first := 0; first <= 2*size+1; first++ {
			for second := 0; second <= 3*size+1; second++ {
				p := pairOf(t, size)
				p.put(row(first, 0))
				p.same()
				p.put(nil)
				p.put([]byte{})
				p.same()
				p.put(row(second, first))
				p.same()
				p.put([]byte{'.'})
				p.same()
				p.copied(min(size, first+second+1), 2*size+1)
			}
		}
	}
}

// P6.2: a great window, with pieces of just its size and beside it.
func TestPutIntoTheGreatestWindow(t *testing.T) {
	for _, n := range []int{1, top - 1, top, top + 1} {
		p := pairOf(t, top)
		b := row(n, 3)
		p.put(b)
		for _, back := range []int{1, 2, n - 1, n, n + 1, top - 1, top, top + 1} {
			p.at(back)
		}
		p.put([]byte("xyz"))
		for _, back := range []int{1, 2, 3, 4, 5, n + 2, n + 3, n + 4, top - 1, top, top + 1} {
			p.at(back)
		}
		p.copied(min(n+3, top), 7)
		p.copied(top+1, 1)
	}
}

// P6.3: all places and lengths in small windows, behind any number of bytes.
func TestCopyAllPlaces(t *testing.T) {
	for size := 1; size <= 7; size++ {
		for put := 0; put <= 3*size; put++ {
			for back := -1; back <= size+2; back++ {
				for n := -1; n <= 3*size+2; n++ {
					p := pairOf(t, size)
					p.put(row(put, 1))
					p.copied(back, n)
					p.same()
				}
			}
		}
	}
}

// P6.3: back just as many as were put, and one more, though the size is greater; back just the size, and one more.
func TestCopyReach(t *testing.T) {
	p := pairOf(t, 100)
	p.put(row(10, 0))
	p.copied(10, 1)
	p.copied(11, 1)
	p.copied(12, 1)
	p.put(row(200, 5))
	p.copied(100, 3)
	p.copied(101, 3)
	p.copied(100, 250)
	p.same()
}

// P6.3, P6.5: n of 0, 1, just back, more than back, more than the size, 2^24.
func TestCopyLengths(t *testing.T) {
	for _, back := range []int{1, 2, 3, 63, 64} {
		for _, n := range []int{0, 1, back - 1, back, back + 1, 2 * back, 2*back + 1, 64, 65, 1000} {
			p := pairOf(t, 64)
			p.put(row(70, 2))
			p.copied(back, n)
			p.same()
			p.copied(64, n)
		}
	}
}

// P6.3: the greatest n, and one past it.
func TestCopyGreatest(t *testing.T) {
	for _, c := range []struct{ size, put, back int }{{1, 1, 1}, {5, 7, 3}, {1000, 1500, 999}, {top, 100, 100}, {top, 1, 1}} {
		p := pairOf(t, c.size)
		p.put(row(c.put, 0))
		p.copied(c.back, top+1)
		p.at(c.back)
		p.copied(c.back, top)
		for _, back := range []int{1, 2, c.back, c.size - 1, c.size, c.size + 1} {
			p.at(back)
		}
	}
}

// P6.3: wrong numbers, and of several errors the one that the chapter names first; what is refused changes nothing.
func TestCopyWrong(t *testing.T) {
	wrongBack := []int{0, -1, -4, 5, 6, top, top + 1, math.MinInt, math.MinInt + 1, math.MaxInt, math.MaxInt - 1}
	wrongMany := []int{-1, -2, top + 1, math.MinInt, math.MinInt + 1, math.MaxInt, math.MaxInt - 1}
	p := pairOf(t, 4)
	p.put([]byte("abcdef"))
	for _, back := range wrongBack {
		for _, n := range []int{0, 1, 5, top} {
			copied(t, p.w, back, n, "", api.ErrMalformed)
		}
		at(t, p.w, back, 0, false)
	}
	for _, n := range wrongMany {
		for _, back := range append(wrongBack, 1, 4) {
			copied(t, p.w, back, n, "", api.ErrArg)
		}
	}
	p.same()
	p.copied(4, 4)
}

// P6.3: an empty window has no byte to copy, not even for n of 0.
func TestCopyOfNothing(t *testing.T) {
	w := made(t, 4, ledger.New(4))
	for _, back := range []int{-1, 0, 1, 4, 5} {
		copied(t, w, back, 0, "", api.ErrMalformed)
		copied(t, w, back, 1, "", api.ErrMalformed)
		copied(t, w, back, -1, "", api.ErrArg)
		at(t, w, back, 0, false)
	}
	w.Put(nil)
	at(t, w, 1, 0, false)
}

// P6.3: At changes nothing, and answers as Copy(back, 1) would.
func TestAtAsCopy(t *testing.T) {
	for size := 1; size <= 6; size++ {
		for put := 0; put <= 2*size+1; put++ {
			for back := -1; back <= size+2; back++ {
				w := made(t, size, ledger.New(size))
				w.Put(row(put, 9))
				c, ok := w.At(back)
				again, okAgain := w.At(back)
				b, e := w.Copy(back, 1)
				if c != again || ok != okAgain || ok != (e == api.OK) || ok && b[0] != c {
					t.Fatalf("size %d, %d put: At(%d) = %d, %v, then %d, %v; Copy tells %v, %d", size, put, back, c, ok, again, okAgain, b, int(e))
				}
			}
		}
	}
}

// P6.3: behind Clear nothing can be copied, the size stays held, and what is put then is all there is.
func TestClear(t *testing.T) {
	for size := 1; size <= 6; size++ {
		for first := 0; first <= 2*size+1; first++ {
			for second := 0; second <= 2*size+1; second++ {
				l := ledger.New(size)
				p := &pair{t, made(t, size, l), &model{size: size}}
				p.put(row(first, 0))
				p.w.Clear()
				p.m.all = nil
				p.same()
				p.copied(1, 0)
				p.copied(1, 1)
				held(t, l, size, size)
				if p.w.Held() != size {
					t.Fatalf("Held = %d behind Clear; want %d", p.w.Held(), size)
				}
				p.put(row(second, 40))
				p.same()
				p.copied(second, 3)
				p.copied(second+1, 3)
				p.same()
			}
		}
	}
}

// P6.4: a window that was dropped.
func TestDropped(t *testing.T) {
	l := ledger.New(20)
	other := made(t, 7, l)
	w := made(t, 4, l)
	w.Put([]byte("abcdef"))
	held(t, l, 11, 11)
	w.Drop()
	for range 3 {
		held(t, l, 7, 11)
		if w.Held() != 0 {
			t.Fatalf("Held = %d behind Drop", w.Held())
		}
		for _, back := range []int{-1, 0, 1, 4, 5, math.MinInt, math.MaxInt} {
			for _, n := range []int{-1, 0, 1, top, top + 1, math.MinInt, math.MaxInt} {
				copied(t, w, back, n, "", api.ErrNone)
			}
			at(t, w, back, 0, false)
		}
		w.Put([]byte("xyz"))
		w.Put(row(100, 0))
		w.Clear()
		w.Drop()
	}
	other.Put([]byte("uv"))
	copied(t, other, 2, 3, "uvu", api.OK)
	other.Drop()
	held(t, l, 0, 11)
}

// P6.4: Drop behind Clear, and of a window into which nothing was put.
func TestDropGivesItsSizeBack(t *testing.T) {
	l := ledger.New(top)
	w := made(t, 1000, l)
	w.Drop()
	held(t, l, 0, 1000)
	w = made(t, 1001, l)
	w.Put(row(2000, 0))
	w.Clear()
	w.Drop()
	held(t, l, 0, 1001)
}

// P6.4: a size that another gave back meanwhile can't be given back, and Drop is none the worse for it.
func TestDropOfARobbedLedger(t *testing.T) {
	l := ledger.New(10)
	w := made(t, 4, l)
	l.Release(3)
	w.Drop()
	held(t, l, 1, 4)
	copied(t, w, 1, 1, "", api.ErrNone)
	l.Charge(9)
	w.Drop()
	held(t, l, 10, 10)
}

// R1, P6.4: a nil window.
func TestNil(t *testing.T) {
	var w *Window
	w.Put(nil)
	w.Put([]byte("abc"))
	w.Clear()
	w.Drop()
	for _, back := range []int{-1, 0, 1, 2, math.MinInt, math.MaxInt} {
		for _, n := range []int{-1, 0, 1, top + 1, math.MinInt, math.MaxInt} {
			copied(t, w, back, n, "", api.ErrNil)
		}
		at(t, w, back, 0, false)
	}
	if n := w.Held(); n != 0 {
		t.Errorf("Held = %d", n)
	}
}

// P6.5: however bytes are cut, what is told is the same.
func TestCutsTellTheSame(t *testing.T) {
	text := row(40, 0)
	rnd := rand.New(rand.NewSource(6))
	for size := 1; size <= 45; size++ {
		for range 20 {
			p := pairOf(t, size)
			for rest := text; len(rest) > 0; {
				n := rnd.Intn(len(rest) + 1)
				p.w.Put(rest[:n])
				rest = rest[n:]
			}
			p.m.put(text)
			p.same()
			p.copied(1+rnd.Intn(min(size, len(text))), rnd.Intn(2*size+2))
			p.same()
		}
	}
}

// P6.5: bytes that were copied and the same bytes put are alike.
func TestCopiedAsPut(t *testing.T) {
	rnd := rand.New(rand.NewSource(65))
	for range 300 {
		size := 1 + rnd.Intn(20)
		one, other := pairOf(t, size), pairOf(t, size)
		one.put(row(30, 0))
		other.put(row(30, 0))
		for range 20 {
			b, e := one.w.Copy(1+rnd.Intn(size), rnd.Intn(2*size))
			if e != api.OK {
				t.Fatal(e)
			}
			one.m.put(b)
			other.put(b)
			one.same()
			other.same()
		}
	}
}

// P6.5: what was copied is copied again, back by back.
func TestCopyOfCopies(t *testing.T) {
	w := made(t, 8, ledger.New(8))
	w.Put([]byte("ab"))
	copied(t, w, 2, 4, "abab", api.OK)
	copied(t, w, 6, 6, "ababab", api.OK)
	w.Put([]byte("c"))
	copied(t, w, 3, 7, "abcabca", api.OK)
	copied(t, w, 8, 9, "cabcabcac", api.OK)
	copied(t, w, 1, 3, "ccc", api.OK)
	copied(t, w, 8, 8, "abcacccc", api.OK)
}

// P6.2 to P6.5: many rows of calls, held against the list.
func TestManyCalls(t *testing.T) {
	rnd := rand.New(rand.NewSource(1))
	for round := range 1500 {
		size := 1 + rnd.Intn(12)
		if round%10 == 0 {
			size = 1 + rnd.Intn(600)
		}
		p := pairOf(t, size)
		for range 60 {
			switch k := rnd.Intn(20); {
			case k < 6:
				p.put(row(rnd.Intn(2*size+2), rnd.Intn(1000)))
			case k < 9:
				p.put([]byte{byte(rnd.Intn(256))})
			case k < 15:
				p.copied(1+rnd.Intn(size), rnd.Intn(3*size+1))
			case k < 18:
				p.copied(rnd.Intn(size+4)-1, rnd.Intn(2*size)-1)
			case k < 19:
				p.same()
			default:
				p.w.Clear()
				p.m.all = nil
			}
		}
		p.same()
	}
}

// P6.6: what a ledger of windows alone holds.
func TestLedgerOfWindows(t *testing.T) {
	rnd := rand.New(rand.NewSource(66))
	for range 200 {
		budget := rnd.Intn(200)
		l := ledger.New(budget)
		var all []*Window
		sum, most := 0, 0
		for range 80 {
			if len(all) > 0 && rnd.Intn(3) == 0 {
				w := all[rnd.Intn(len(all))]
				sum -= w.Held()
				w.Drop()
			} else {
				size := rnd.Intn(60) - 5
				w, e := New(size, l)
				want := api.OK
				if size < 1 {
					want = api.ErrArg
				} else if sum+size > budget {
					want = api.ErrOverBudget
				}
				if e != want || (w != nil) != (want == api.OK) {
					t.Fatalf("New(%d) with %d of %d held = %v, %d; want %d", size, sum, budget, w, int(e), int(want))
				}
				if want == api.OK {
					all, sum, most = append(all, w), sum+size, max(most, sum+size)
				}
			}
			if len(all) > 0 {
				w := all[rnd.Intn(len(all))]
				w.Put(row(rnd.Intn(90), 0))
				w.Copy(rnd.Intn(40), rnd.Intn(40))
				if rnd.Intn(4) == 0 {
					w.Clear()
				}
			}
			held(t, l, sum, most)
		}
		for _, w := range all {
			w.Drop()
		}
		held(t, l, 0, most)
	}
}

// P6.5, P6.6: windows of one ledger have nothing but the ledger in common.
func TestWindowsApart(t *testing.T) {
	l := ledger.New(30)
	a, b := made(t, 10, l), made(t, 20, l)
	a.Put([]byte("aaa"))
	b.Put([]byte("bbbbb"))
	copied(t, a, 3, 4, "aaaa", api.OK)
	copied(t, b, 5, 4, "bbbb", api.OK)
	a.Clear()
	copied(t, b, 9, 1, "b", api.OK)
	a.Drop()
	copied(t, b, 10, 1, "b", api.OK)
}

// R3: the slice that is handed in is not changed, nor the room behind its end, and may be changed behind the call.
func TestPutKeepsNothing(t *testing.T) {
	for size := 1; size <= 12; size++ {
		for n := 0; n <= 14; n++ {
			whole := row(20, 0)
			b := whole[2 : 2+n]
			p := pairOf(t, size)
			p.put([]byte("01234"))
			p.put(b)
			p.copied(min(size, 5+n), 30)
			if !bytes.Equal(whole, row(20, 0)) {
				t.Fatalf("size %d: what was handed in became %v", size, whole)
			}
			p.put(b)
			for i := range whole {
				whole[i] = 255
			}
			p.same()
			p.copied(min(size, 5+n), 30)
		}
	}
}

// R3: what Copy tells is new memory, with the room behind its end.
func TestCopyTellsNewMemory(t *testing.T) {
	for size := 1; size <= 12; size++ {
		for back := 1; back <= size; back++ {
			for n := 0; n <= 2*size+1; n++ {
				p := pairOf(t, size)
				p.put(row(15, 0))
				b, e := p.w.Copy(back, n)
				want, _ := p.m.copied(back, n)
				if e != api.OK {
					t.Fatal(e)
				}
				kept := bytes.Clone(b)
				p.copied(back, n)
				p.put([]byte("0123456789abcdef"))
				if !bytes.Equal(b, kept) || !bytes.Equal(b, want) {
					t.Fatalf("size %d: what Copy(%d, %d) told became %v; want %v", size, back, n, b, want)
				}
				for b = b[:cap(b)]; len(b) > 0; b = b[1:] {
					b[0] = 255
				}
				p.same()
			}
		}
	}
}

// P6.3: a copy of no bytes puts none.
func TestCopyOfNone(t *testing.T) {
	p := pairOf(t, 4)
	p.put([]byte("abcde"))
	b, e := p.w.Copy(3, 0)
	if len(b) != 0 || e != api.OK {
		t.Fatalf("Copy(3, 0) = %v, %d", b, int(e))
	}
	p.same()
}
