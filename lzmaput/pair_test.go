package lzmaput

import (
	"bytes"
	"math/rand"
	"slices"
	"testing"

	"baler/api"
	"baler/finder"
	"baler/ledger"
	"baler/lzma"
	"baler/window"
)

// pair is a state that writes and one that reads, of the same settings and with the same chunks ahead.
type pair struct {
	t *testing.T
	s *State
	d *lzma.State
}

func pairOf(t *testing.T, lc, lp, pb int) *pair {
	t.Helper()
	s, e := New(lc, lp, pb)
	if e != api.OK || s == nil {
		t.Fatalf("New(%d, %d, %d): %d", lc, lp, pb, int(e))
	}
	d := lzma.New()
	if e := d.Props(byte((pb*5+lp)*9 + lc)); e != api.OK {
		t.Fatal(e)
	}
	return &pair{t: t, s: s, d: d}
}

func (x *pair) reset() *pair {
	x.s.Reset()
	x.d.Reset()
	return x
}

// windowOf gives a window of this size (as far as there may be one) in which these bytes are.
func windowOf(t *testing.T, size int, held ...[]byte) *window.Window {
	t.Helper()
	w, e := window.New(min(max(size, 1), api.MaxWindow), ledger.New(api.MaxWindow))
	if e != api.OK {
		t.Fatal(e)
	}
	for _, b := range held {
		w.Put(b)
	}
	return w
}

// tells writes a chunk and looks that it is read as b's bytes from from on: by a window of no more bytes than from, by one that
// holds all of b, and by one that has other bytes ahead of b's.
func (x *pair) tells(b []byte, from, total int, l []api.Seq) []byte {
	x.t.Helper()
	chunk, e := x.s.Chunk(b, from, total, l)
	if e != api.OK {
		x.t.Fatalf("Chunk of %.80q from %d on, total %d, steps %v: %d", b, from, total, few(l), int(e))
	}
	windows := []*window.Window{windowOf(x.t, from, b[:from]), windowOf(x.t, len(b), b[:from])}
	if from > 0 {
		windows = append(windows, windowOf(x.t, len(b)+1000, bytes.Repeat([]byte{0xa5, 0x5a}, 400), b[:from]))
	}
	before := *x.d
	for k, w := range windows {
		*x.d = before
		told, e := x.d.Chunk(w, total, chunk, len(b)-from)
		if e != api.OK || !bytes.Equal(told, b[from:]) {
			x.t.Fatalf("window %d: a chunk of %.80q, from %d, total %d, steps %v, is read as %.80q, %d", k, b[from:], from, total, few(l), told, int(e))
		}
	}
	return chunk
}

// parsed tells b, chunk by chunk, each ending at the next one of ends, parsed at this level.
func (x *pair) parsed(b []byte, level int, ends ...int) int {
	x.t.Helper()
	from, size := 0, 0
	for _, end := range append(ends, len(b)) {
		if end = min(end, len(b)); end > from {
			size += len(x.tells(b[:end], from, from, finder.Parse(b[:end], from, level, api.MaxWindow, shortest, longest)))
			from = end
		}
	}
	return size
}

func step(lits, match, back int) api.Seq {
	return api.Seq{Lits: lits, Match: match, Back: back}
}

// laid gives the text that steps make behind these bytes, with these Lits. (Package finder's Back makes none of more than
// api.MaxContent bytes.)
func laid(t *testing.T, ahead, lits []byte, l []api.Seq) []byte {
	t.Helper()
	b := slices.Clone(ahead)
	for _, s := range l {
		b, lits = append(b, lits[:s.Lits]...), lits[s.Lits:]
		for range s.Match {
			b = append(b, b[len(b)-s.Back])
		}
	}
	return b
}

// few gives the first ones of steps, to be told of a fault.
func few(l []api.Seq) []api.Seq {
	return l[:min(len(l), 12)]
}

// steps tells a text that is laid so, in one chunk.
func (x *pair) steps(ahead, lits []byte, total int, l ...api.Seq) []byte {
	x.t.Helper()
	return x.tells(laid(x.t, ahead, lits, l), len(ahead), total, l)
}

// eachSetting calls look for each that New takes.
func eachSetting(look func(lc, lp, pb int)) {
	for pb := range 5 {
		for lp := range 5 {
			for lc := range 5 - lp {
				look(lc, lp, pb)
			}
		}
	}
}

// noise gives bytes of no kind.
func noise(r *rand.Rand, n int) []byte {
	b := make([]byte, n)
	r.Read(b)
	return b
}

// words gives a text of words, some of which come often.
func words(r *rand.Rand, n int) []byte {
	list := []string{"the ", "graph ", "of ", "stages ", "a ", "window ", "bytes, ", "and ", "copies; ", "far ", "behind.\n", "0123456789"}
	var b []byte
	for len(b) < n {
		b = append(b, list[min(r.Intn(len(list)), r.Intn(len(list)))]...)
		if r.Intn(9) == 0 {
			b = append(b, byte(r.Intn(256)))
		}
	}
	return b[:n]
}

// records gives rows of numbers that are alike but for some bytes.
func records(r *rand.Rand, n int) []byte {
	row, b := noise(r, 12), []byte(nil)
	for len(b) < n {
		row[r.Intn(12)] = byte(r.Intn(256))
		row[3]++
		b = append(b, row...)
	}
	return b[:n]
}

// randomSteps gives steps behind ahead and the text that they make, of at least n bytes: among them such as make nothing.
func randomSteps(t *testing.T, r *rand.Rand, ahead []byte, n int) ([]byte, []api.Seq) {
	t.Helper()
	var l []api.Seq
	var lits []byte
	last := 1
	for size := 0; size < n; {
		s := step([]int{0, 0, 1, 2, 5}[r.Intn(5)], 2+r.Intn([]int{1, 2, 8, 16, 272}[r.Intn(5)]), last)
		room := len(ahead) + size + s.Lits
		if r.Intn(2) == 0 {
			s.Back = 1 + r.Intn(1<<r.Intn(18))
		}
		if s.Back = min(s.Back, room); s.Back == 0 || r.Intn(5) == 0 {
			s.Match, s.Back = 0, 0
		} else if r.Intn(3) > 0 {
			last = s.Back
		}
		lits = append(lits, noise(r, s.Lits)...)
		l, size = append(l, s), size+s.Lits+s.Match
	}
	return laid(t, ahead, lits, l), l
}
