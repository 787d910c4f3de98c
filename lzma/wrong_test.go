package lzma

import (
	"bytes"
	"math"
	"math/rand"
	"slices"
	"testing"

	"baler/api"
	"baler/window"
)

// unchanged looks that calls have changed neither the state nor the window.
func unchanged(t *testing.T, what string, calls func(s *State, w *window.Window)) {
	t.Helper()
	x := worn(t, 2, 1, 3)
	old := *x.s
	calls(x.s, x.w)
	if *x.s != old {
		t.Errorf("%s: the state was changed", what)
	}
	x.same()
}

// P12.3: a nil state, a nil window, both; ahead of all else that is wrong.
func TestNil(t *testing.T) {
	unchanged(t, "nil", func(s *State, w *window.Window) {
		for _, n := range []int{1, 0, -1, 1<<21 + 1, math.MinInt} {
			for _, total := range []int{0, -1, math.MinInt} {
				for _, b := range [][]byte{make([]byte, 6), nil, {1, 0, 0, 0, 0, 0}} {
					wantRefused(t, nil, w, total, b, n, api.ErrNil)
					wantRefused(t, s, nil, total, b, n, api.ErrNil)
					wantRefused(t, nil, nil, total, b, n, api.ErrNil)
				}
			}
		}
	})
}

// wantRefused looks for an error, and nothing else.
func wantRefused(t *testing.T, s *State, w *window.Window, total int, b []byte, n int, want api.Errno) {
	t.Helper()
	if told, e := s.Chunk(w, total, b, n); e != want || len(told) != 0 {
		t.Errorf("Chunk(%d, % x, %d) = %q, %d; want %d", total, b, n, told, int(e), int(want))
	}
}

// P12.3: numbers that are not let in; ahead of bytes that are none.
func TestArgs(t *testing.T) {
	unchanged(t, "numbers that are not let in", func(s *State, w *window.Window) {
		for _, x := range []struct{ total, n int }{
			{0, 0}, {0, -1}, {0, 1<<21 + 1}, {0, math.MinInt}, {0, math.MaxInt}, {0, 1 << 32},
			{-1, 1}, {math.MinInt, 1}, {-16, 1}, {-1, 0}, {math.MinInt, math.MaxInt}, {math.MaxInt, 0},
		} {
			for _, b := range [][]byte{make([]byte, 6), nil, {}, {1, 0, 0, 0, 0, 0}, make([]byte, 4)} {
				wantRefused(t, s, w, x.total, b, x.n, api.ErrArg)
			}
		}
	})
	for _, total := range []int{0, 1, math.MaxInt} {
		x := pairOf(t, 9)
		x.tells(x.pen(total).text("a"))
	}
}

// P12.3: bytes that begin no ranges.
func TestNoRanges(t *testing.T) {
	list := [][]byte{nil, {}, {0}, {0, 0}, {0, 0, 0}, {0, 0, 0, 0}, {1}, {255, 255, 255, 255}}
	for first := 1; first < 256; first++ {
		list = append(list, []byte{byte(first), 0, 0, 0, 0, 0}, []byte{byte(first), 0, 0, 0, 0})
	}
	unchanged(t, "no ranges", func(s *State, w *window.Window) {
		for _, b := range list {
			wantRefused(t, s, w, 1, b, 1, api.ErrMalformed)
		}
	})
}

// someChunk gives a chunk of operations of all kinds, made for what pairs of this size are at first.
func someChunk(t *testing.T, seed int64, size, n int) *pen {
	t.Helper()
	return pairOf(t, size).pen(0).some(rand.New(rand.NewSource(seed)), n)
}

// P12.5: a chunk with a byte more, whatever it is, or with some; with one byte less, or cut at each of its places. All of its
// operations are read nevertheless, as far as they can be.
func TestByteMoreByteLess(t *testing.T) {
	for seed := range int64(10) {
		for _, n := range []int{1, 5, 60, 400} {
			p := someChunk(t, seed, 300, n)
			b, n := p.close(), len(p.told)
			pairOf(t, 300).tells(p)
			for more := range 256 {
				x := pairOf(t, 300)
				if _, e := x.asks(0, append(slices.Clone(b), byte(more)), n); e != api.ErrMalformed {
					t.Fatalf("a byte %d more: %d", more, int(e))
				}
				if !bytes.Equal(x.l.all, p.told) {
					t.Fatalf("%q was put, not %q", x.l.all, p.told)
				}
			}
			for _, more := range []int{2, 5, 100} {
				if _, e := pairOf(t, 300).asks(0, append(slices.Clone(b), make([]byte, more)...), n); e != api.ErrMalformed {
					t.Fatalf("%d bytes more: %d", more, int(e))
				}
			}
			for cut := range b {
				x := pairOf(t, 300)
				if _, e := x.asks(0, b[:cut], n); e != api.ErrMalformed {
					t.Fatalf("%d of %d bytes: %d", cut, len(b), int(e))
				}
				if cut < 5 && len(x.l.all) > 0 {
					t.Fatalf("%d of %d bytes: %q was put", cut, len(b), x.l.all)
				}
			}
			// With another n it is none too.
			for _, other := range []int{n - 1, n + 1, n + 300} {
				if _, e := pairOf(t, 300).asks(0, b, other); other > 0 && e != api.ErrMalformed {
					t.Fatalf("%d bytes of %d: %d", other, n, int(e))
				}
			}
		}
	}
}

// P12.3: a code that is not 0 at the end; the bytes are put by then.
func TestCodeAtTheEnd(t *testing.T) {
	for last := 1; last < 128; last++ {
		x := pairOf(t, 9)
		if _, e := x.asks(0, []byte{0, 0, 0, 0, 0, byte(last)}, 1); e != api.ErrMalformed || string(x.l.all) != "\x00" {
			t.Errorf("% x: %d, %q", last, int(e), x.l.all)
		}
	}
	for seed := range int64(10) {
		p := someChunk(t, seed, 300, 200)
		b := p.close()
		found := false
		for change := 1; change < 256; change++ {
			c := slices.Clone(b)
			c[len(c)-1] ^= byte(change)
			x := pairOf(t, 300)
			if _, e := x.asks(0, c, len(p.told)); e != api.ErrMalformed {
				t.Fatalf("the last byte changed by %d: %d", change, int(e))
			}
			found = found || bytes.Equal(x.l.all, p.told)
		}
		if !found {
			t.Error("no other code was read as the same bytes")
		}
	}
}

// P12.3: a window that was dropped takes no bytes, and copies none: Copy's error is told; those that are named ahead of it come first.
func TestDroppedWindow(t *testing.T) {
	dropped := func() *pair {
		x := pairOf(t, 9).holds([]byte("abc"))
		x.w.Drop()
		x.l.all, x.l.dropped = nil, true
		return x
	}
	x := dropped()
	x.tells(x.pen(3).text("xyz"))
	for _, o := range []op{matchOf(0, 2), shortOf(), repeatOf(0, 2), repeatOf(3, 2), matchOf(1<<32-2, 2)} {
		x = dropped()
		x.refuses(x.pen(3).put(byteOf('x'), o), 3, api.ErrNone)
	}
	x = dropped()
	x.refuses(x.pen(3).put(matchOf(1<<32-1, 2)), 2, api.ErrMalformed)
	x = dropped()
	x.refuses(x.pen(3).put(matchOf(0, 3)), 2, api.ErrMalformed)
	x = dropped()
	x.refuses(x.pen(3).put(repeatOf(0, 3)), 2, api.ErrMalformed)
	if _, e := x.asks(0, nil, 1); e != api.ErrMalformed {
		t.Error(e)
	}
	if _, e := x.asks(-1, nil, 1); e != api.ErrArg {
		t.Error(e)
	}
}

// P12.3: with an error the window has what was put up to it, and the state is what it is by then: chunks go on from there.
func TestBehindErrors(t *testing.T) {
	wrong := map[string]func(*pen) *pen{
		"a match too long":     func(p *pen) *pen { return p.put(matchOf(0, 273)) },
		"a repeat too long":    func(p *pen) *pen { return p.put(repeatOf(2, 273)) },
		"the end mark":         func(p *pen) *pen { return p.put(matchOf(1<<32-1, 2)) },
		"a match too far":      func(p *pen) *pen { return p.put(matchOf(1<<25, 2)) },
		"a match just too far": func(p *pen) *pen { return p.put(matchOf(uint32(len(p.w.all)), 2)) },
	}
	for what, lay := range wrong {
		for seed := range int64(20) {
			r := rand.New(rand.NewSource(seed))
			x := pairOf(t, 1<<12).props(1, 1, 1)
			p := x.pen(0).some(r, 200)
			n := len(p.told)
			x.refuses(lay(p), n+100, api.ErrMalformed)
			if !bytes.Equal(x.l.all, p.told[:n]) {
				t.Fatalf("%s: %q was put, not %q", what, x.l.all, p.told[:n])
			}
			x.tells(x.pen(n).some(r, 300))
			x.tells(x.reset().pen(n).some(r, 300))
		}
	}
}

// P12.3, R10: whatever bytes: both tell the same of them, and go on alike, chunk behind chunk.
func TestNoise(t *testing.T) {
	r := rand.New(rand.NewSource(9))
	for range 300 {
		x := pairOf(t, 1+r.Intn(2000)).holds(noise(r, r.Intn(2000)))
		lc, lp := r.Intn(5), 0
		if lc < 4 {
			lp = r.Intn(5 - lc)
		}
		x.props(lc, lp, r.Intn(5))
		for range 20 {
			b := noise(r, r.Intn(200))
			if len(b) > 0 && r.Intn(9) > 0 {
				b[0] = 0
			}
			x.asks(r.Intn(40), b, 1+r.Intn(400))
		}
	}
}

// P12.3, R10: chunks of which some bytes were changed.
func TestChangedChunks(t *testing.T) {
	r := rand.New(rand.NewSource(10))
	for range 200 {
		x := pairOf(t, 1+r.Intn(2000)).props(r.Intn(3), r.Intn(3), r.Intn(5))
		total := 0
		for range 8 {
			p := x.pen(total).some(r, 1+r.Intn(300))
			b := p.close()
			for range r.Intn(3) {
				b[r.Intn(len(b))] ^= byte(1 << r.Intn(8))
			}
			x.asks(total, b, len(p.told)+r.Intn(3)/2)
			total += len(p.told)
		}
	}
}

// R3: what is handed in is neither changed (asks looks at that) nor kept, with the room behind it; what is told is new memory.
func TestMemory(t *testing.T) {
	x := pairOf(t, 300)
	p := x.pen(0).some(rand.New(rand.NewSource(11)), 200)
	whole := p.close()
	b := slices.Grow(slices.Clone(whole), 50)
	copy(b[len(b):cap(b)], bytes.Repeat([]byte{0xaa}, cap(b)-len(b)))
	told, e := x.asks(0, b, len(p.told))
	if e != api.OK {
		t.Fatal(e)
	}
	for k := range b {
		b[k] = 0xff
	}
	for k := range told[:cap(told)] {
		told[:cap(told)][k] = 0xee
	}
	x.same()
	x.tells(x.pen(len(p.told)).put(matchOf(0, 100), matchOf(90, 100)))

	first, _ := New().Chunk(windowOf(t, 300), 0, whole, len(p.told))
	second, _ := New().Chunk(windowOf(t, 300), 0, whole, len(p.told))
	for k := range first {
		first[k] ^= 0xff
	}
	if !bytes.Equal(second, p.told) {
		t.Error("what two calls tell shares memory")
	}
}

// P12.4: the same again tells the same, and leaves the same state; other states and windows at work between change nothing.
func TestSameAgain(t *testing.T) {
	r := rand.New(rand.NewSource(12))
	for range 20 {
		x, y := worn(t, 1, 2, 3), worn(t, 1, 2, 3)
		p := x.pen(7+16*r.Intn(9)).some(r, 400)
		b, n := p.close(), len(p.told)
		first, e := x.s.Chunk(x.w, 7, b, n)
		if e != api.OK {
			t.Fatal(e)
		}
		worn(t, 4, 0, 0)
		second, e := y.s.Chunk(y.w, 7+1<<30, b, n)
		if e != api.OK || !bytes.Equal(first, second) || !bytes.Equal(first, p.told) || *x.s != *y.s {
			t.Fatalf("%q, %q, %d", first, second, int(e))
		}
	}
}

// P12.4: the window's bytes that can't be reached, and those that no distance names, count for nothing.
func TestWindowsAlikeInWhatIsNamed(t *testing.T) {
	for _, ahead := range []string{"abc", "xyzabc", "x\x00abc"} {
		x := pairOf(t, 9).holds([]byte(ahead))
		p := pairOf(t, 9).holds([]byte("abc")).pen(3).put(matchOf(2, 3), byteOf('d'), shortOf())
		if told, e := x.asks(3, p.close(), 5); e != api.OK || string(told) != "abcdb" {
			t.Errorf("behind %q: %q, %d", ahead, told, int(e))
		}
	}
}
