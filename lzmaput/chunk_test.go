package lzmaput

import (
	"bytes"
	"math"
	"math/rand"
	"slices"
	"strings"
	"testing"

	"baler/api"
	"baler/finder"
)

// P14.2: the chapter's examples.
func TestExamples(t *testing.T) {
	if told := pairOf(t, 3, 0, 2).tells([]byte{0}, 0, 0, []api.Seq{step(1, 0, 0)}); !bytes.Equal(told, make([]byte, 6)) {
		t.Errorf("one byte 0: % x", told)
	}
	pairOf(t, 3, 0, 2).tells([]byte("abcabc"), 0, 0, []api.Seq{step(3, 3, 3)})
	s, _ := New(3, 0, 2)
	if told, e := s.Chunk([]byte("abc"), 0, 0, []api.Seq{step(2, 0, 0)}); len(told) != 0 || e != api.ErrMalformed {
		t.Errorf("% x, %d", told, int(e))
	}
	if told, e := s.Chunk([]byte("abc"), 3, 0, nil); len(told) != 0 || e != api.ErrMalformed {
		t.Errorf("% x, %d", told, int(e))
	}
}

// someTexts gives texts of many kinds.
func someTexts(r *rand.Rand, n int) map[string][]byte {
	twice := noise(r, n/2)
	return map[string][]byte{
		"words": words(r, n), "records": records(r, n), "noise": noise(r, n), "one byte": make([]byte, n), "two": bytes.Repeat([]byte("ab"), n/2),
		"noise twice": slices.Concat(twice, twice), "long and short": slices.Concat(words(r, n/4), make([]byte, n/4), words(r, n/4), noise(r, n/4)),
	}
}

// P14.2, P14.3: texts parsed at each level, told in one chunk, in two, in many.
func TestParsedTexts(t *testing.T) {
	r := rand.New(rand.NewSource(2))
	for _, n := range []int{2, 3, 50, 5000, 100000} {
		for name, b := range someTexts(r, n) {
			for level := range 4 {
				pairOf(t, 3, 0, 2).parsed(b, level)
				pairOf(t, 3, 0, 2).parsed(b, level, n/2)
				pairOf(t, 3, 0, 2).parsed(b, level, 1, 2, n/7, n/5, n/3, n-1)
				if t.Failed() {
					t.Fatal(name, n, level)
				}
			}
		}
	}
}

// P14.3: chunks one behind the other, of all lengths from one byte on, read by one state and one window of just as many bytes as
// the last chunk has ahead of it.
func TestOneWindow(t *testing.T) {
	r := rand.New(rand.NewSource(3))
	for name, b := range someTexts(r, 9000) {
		x := pairOf(t, 2, 1, 3)
		last := 0
		for at := 0; at < len(b); at = min(len(b), at+1+at/5) {
			last = at
		}
		w := windowOf(t, last)
		var all []byte
		for at := 0; at < len(b); {
			end := min(len(b), at+1+at/5)
			chunk, e := x.s.Chunk(b[:end], at, at, finder.Parse(b[:end], at, 3, 1<<16, 2, 273))
			if e != api.OK {
				t.Fatal(name, at, e)
			}
			told, e := x.d.Chunk(w, at, chunk, end-at)
			if e != api.OK {
				t.Fatal(name, at, e)
			}
			all, at = append(all, told...), end
		}
		if !bytes.Equal(all, b) {
			t.Errorf("%s is told as another text", name)
		}
	}
}

// P14.2, P14.3: all settings, each with chunks behind one another, a Reset on both sides between some of them.
func TestAllSettings(t *testing.T) {
	r := rand.New(rand.NewSource(4))
	eachSetting(func(lc, lp, pb int) {
		for k, b := range [][]byte{words(r, 2000), records(r, 2000), nil} {
			x := pairOf(t, lc, lp, pb)
			x.parsed(b, 2, 1, 3, 100, 500)
			for range 6 {
				from := len(b)
				var l []api.Seq
				b, l = randomSteps(t, r, b, 1+r.Intn(1500))
				x.tells(b, from, from+k, l)
				if r.Intn(3) == 0 {
					x.reset()
				}
			}
		}
	})
}

// P14.2: steps laid by hand, with nothing ahead and with some bytes.
func TestStepsByHand(t *testing.T) {
	for _, l := range [][]api.Seq{
		{step(1, 0, 0)},
		{step(1, 0, 0), step(1, 0, 0), step(2, 0, 0)},
		{step(9, 0, 0)},
		{step(5, 3, 2), step(0, 4, 3)},
		{step(5, 3, 2), step(0, 4, 3), step(0, 2, 5), step(0, 273, 1)},
		{step(1, 273, 1)},
		{step(3, 200, 3)},
		{step(3, 200, 2), step(1, 100, 50), step(2, 0, 0)},
		{step(0, 0, 0), step(2, 0, 0), step(0, 0, 0), step(0, 0, 7), step(1, 2, 1), step(0, 0, 0)},
		{step(0, 0, math.MaxInt), step(2, 0, 99), step(0, 2, 2), step(0, 0, math.MaxInt)},
		{step(2, 2, 1)},
		{step(2, 2, 2), step(0, 2, 2), step(0, 3, 4)},
		{step(4, 2, 4), step(1, 2, 4), step(1, 3, 4), step(1, 9, 4), step(1, 10, 4), step(1, 17, 4), step(1, 18, 4), step(1, 272, 4)},
	} {
		lits := []byte(strings.Repeat("abcdefghij", 2))
		for _, ahead := range []string{"", "x", "xyzzy", "some bytes that stand ahead, and far more than these steps ever reach"} {
			for _, total := range []int{len(ahead), len(ahead) + 5} {
				pairOf(t, 3, 0, 2).steps([]byte(ahead), lits, total, l...)
				pairOf(t, 0, 2, 4).steps([]byte(ahead), lits, total, l...)
			}
		}
	}
	// With bytes ahead a Match may be first.
	for _, l := range [][]api.Seq{{step(0, 2, 1)}, {step(0, 273, 6)}, {step(0, 3, 2), step(0, 3, 6), step(0, 4, 9)}, {step(0, 0, 0), step(0, 5, 6)}} {
		pairOf(t, 3, 0, 2).steps([]byte("behind"), nil, 6, l...)
		pairOf(t, 3, 0, 2).steps([]byte("behind"), nil, 0, l...)
	}
}

// P14.2: each length that a Match may have, by a new distance and by each kept one, at each place.
func TestLengths(t *testing.T) {
	r := rand.New(rand.NewSource(5))
	ahead := noise(r, 2000)
	for pb := range 5 {
		x := pairOf(t, 1, 1, pb)
		var l []api.Seq
		var lits []byte
		for _, k := range r.Perm(272) {
			l = append(l, step(1, k+2, 600+k), step(0, 273-k, 700-k/2), step(2, k+2, 600+k), step(0, 2+k%17, 301), step(1, 2+k/2, 700-k/2), step(0, k+2, 600+k))
			lits = append(lits, noise(r, 4)...)
		}
		x.steps(ahead, lits, 3, l...)
	}
	for length := 2; length <= 273; length++ {
		x := pairOf(t, 3, 0, 2)
		x.steps(ahead, []byte("ab"), 0, step(1, length, 1000), step(1, length, 1000))
		x.steps(ahead, nil, 0, step(0, length, 1000))
		x.steps(ahead, []byte("a"), 0, step(1, length, 1))
	}
}

// P14.2: Backs of each slot: the least and the greatest of each, by each length's set; as far back as the first byte.
func TestBacks(t *testing.T) {
	r := rand.New(rand.NewSource(6))
	ahead := noise(r, 1<<24)
	backs := []int{1, 2, 3, 4, 5, 6, 7, 8, 9, 96, 97, 98, 127, 128, 129, 130, 1 << 16, 1<<16 + 1}
	for k := 3; k <= 24; k++ {
		for _, base := range []int{1 << k, 3 << (k - 1)} {
			for _, back := range []int{base, base + 1, base + base/4} {
				if back <= 1<<24 {
					backs = append(backs, back)
				}
			}
		}
	}
	var l []api.Seq
	for length := 2; length <= 7; length++ {
		for _, k := range r.Perm(len(backs)) {
			l = append(l, step(k%2, length, backs[k]))
		}
	}
	pairOf(t, 3, 0, 2).steps(ahead, noise(r, len(l)), 1, l...)
}

// P14.2: each Back below 300, with just as many bytes ahead, with one more, with many.
func TestNearBacks(t *testing.T) {
	r := rand.New(rand.NewSource(7))
	ahead := noise(r, 1000)
	x := pairOf(t, 3, 0, 2)
	for back := 1; back < 300; back++ {
		for _, more := range []int{0, 1, 500} {
			x.steps(ahead[:back+more], []byte("abc"), 9, step(0, 2+back%5, back), step(1, 4, back), step(2, 0, 0))
			pairOf(t, 0, 0, 0).steps(ahead[:back+more], []byte("ab"), 0, step(1, 9, back+1), step(1, 0, 0))
		}
	}
}

// P14.2: copies that reach just as far back as the first byte, and matches beyond the bytes that stand ahead of the chunk: tells
// reads them by a window that has no more than those.
func TestBackToTheFirstByte(t *testing.T) {
	r := rand.New(rand.NewSource(8))
	for from := range 40 {
		for lits := range 40 {
			if from+lits > 0 {
				x := pairOf(t, 3, 0, 2)
				x.steps(noise(r, from), noise(r, lits+3), from, step(lits, 5, from+lits), step(1, 5, from+lits+6), step(2, 30, from+lits+6+7))
			}
		}
	}
}

// P14.2: repeats of each of the four distances, one behind the other, behind a byte, behind a Match.
func TestRepeats(t *testing.T) {
	r := rand.New(rand.NewSource(9))
	ahead := noise(r, 500)
	first := []api.Seq{step(1, 4, 400), step(0, 5, 300), step(0, 3, 200), step(1, 6, 100)}
	backs := []int{400, 300, 200, 100}
	for _, lits := range []int{0, 1, 2, 3, 5} {
		for a := range 256 {
			l := slices.Clone(first)
			for _, k := range []int{a & 3, a >> 2 & 3, a >> 4 & 3, a >> 6} {
				l = append(l, step(lits, 2+a%9, backs[k]))
			}
			l = append(l, step(lits, 7, 350), step(0, 3, 100), step(lits, 5, 350))
			pairOf(t, 2, 0, 1).steps(ahead, noise(r, 2+6*lits), 11, l...)
		}
	}
}

// P14.2: a kept distance is told in fewer bytes than a new one, a copy in far fewer than its bytes.
func TestCopiesAreShort(t *testing.T) {
	r := rand.New(rand.NewSource(10))
	ahead := noise(r, 1<<16)
	var same, unlike []api.Seq
	for k := range 100 {
		same = append(same, step(0, 20, 50000+k%4))
		unlike = append(unlike, step(0, 20, 40000+k*100))
	}
	a, b := len(pairOf(t, 3, 0, 2).steps(ahead, nil, 1, same...)), len(pairOf(t, 3, 0, 2).steps(ahead, nil, 1, unlike...))
	if a > 140 || b > 500 || a >= b {
		t.Errorf("%d bytes by kept distances, %d by new ones", a, b)
	}
	for _, n := range []int{10000, 65536} {
		for level := 1; level <= 3; level++ {
			if size := pairOf(t, 3, 0, 2).parsed(make([]byte, n), level); size > n/64+16 {
				t.Errorf("one byte %d times: %d bytes", n, size)
			}
		}
	}
	text := words(r, 20000)
	if size := pairOf(t, 3, 0, 2).parsed(text, 2, 5000, 10000); size > len(text)/2 {
		t.Errorf("words: %d bytes", size)
	}
}

// P14.2: the totals that may be, at each place, and with places that go on beyond the greatest int.
func TestTotals(t *testing.T) {
	r := rand.New(rand.NewSource(11))
	totals := []int{0, 1, 2, 3, 7, 8, 15, 16, 17, 31, 1 << 20, 1 << 40, 1<<40 + 13, math.MaxInt - 1, math.MaxInt}
	eachSetting(func(lc, lp, pb int) {
		for _, total := range totals {
			ahead := noise(r, r.Intn(3)*50)
			x := pairOf(t, lc, lp, pb)
			b, l := randomSteps(t, r, ahead, 200)
			x.tells(b, len(ahead), total, l)
			c, l := randomSteps(t, r, b, 100)
			x.tells(c, len(b), totals[r.Intn(len(totals))], l)
		}
	})
}

// P14.2: the first byte, with nothing ahead and with something, and with total 0, with which no byte is ahead, and above it.
func TestFirstByte(t *testing.T) {
	for lc := range 5 {
		for _, ahead := range []string{"", "\x00", "\xff", "\x7f", "\x80", "abc\xf0"} {
			for _, total := range []int{0, 1, 16} {
				for b := 0; b < 256; b += 5 {
					x := pairOf(t, lc, 0, 2)
					x.steps([]byte(ahead), []byte{byte(b)}, total, step(1, 0, 0))
					x.steps([]byte(ahead), []byte{byte(b), 0xff, byte(b), 0}, total, step(4, 0, 0))
					x.steps([]byte(ahead), []byte{byte(b), 0xff}, total, step(1, 3, 1), step(1, 0, 0))
				}
			}
		}
	}
}

// P14.2: chunks of which the next ones have other bytes ahead, or fewer, or none, while the state goes on.
func TestOtherTexts(t *testing.T) {
	r := rand.New(rand.NewSource(12))
	for range 300 {
		x := pairOf(t, r.Intn(3), r.Intn(3), r.Intn(5))
		for range 5 {
			ahead := noise(r, []int{0, 1, 2, 100, 1000}[r.Intn(5)])
			b, l := randomSteps(t, r, ahead, 1+r.Intn(400))
			x.tells(b, len(ahead), r.Intn(20), l)
		}
	}
	// A part of the text may stand for all of it.
	b := words(r, 5000)
	x := pairOf(t, 3, 0, 2)
	for at := 0; at < len(b); at += 500 {
		part := b[max(0, at-600) : at+500]
		from := len(part) - 500
		x.tells(part, from, at, finder.Parse(part, from, 2, 1<<16, 2, 273))
	}
}

// P14.2: chunks of one byte, of each that is.
func TestChunksOfOneByte(t *testing.T) {
	x := pairOf(t, 4, 0, 4)
	var b []byte
	for k := range 1000 {
		b = append(b, byte(k*k>>3))
		x.tells(b, k, k, []api.Seq{step(1, 0, 0)})
	}
}

// P14.2: the most bytes that a chunk tells, by copies and by bytes alone, and one more.
func TestMostBytes(t *testing.T) {
	for _, ahead := range [][]byte{nil, []byte("abc")} {
		for _, level := range []int{0, 1} {
			b := append(slices.Clone(ahead), bytes.Repeat([]byte("abcdefgh"), 1<<18)...)
			x := pairOf(t, 3, 0, 2)
			x.tells(b, len(ahead), len(ahead), finder.Parse(b, len(ahead), level, 1<<16, 2, 273))
			old := *x.s
			b = append(b, 'a')
			l := finder.Parse(b, len(ahead), level, 1<<16, 2, 273)
			if told, e := x.s.Chunk(b, len(ahead), 0, l); len(told) != 0 || e != api.ErrLong {
				t.Errorf("%d bytes, %d", len(told), int(e))
			}
			// What is no text of steps is told as that, however long it is.
			for _, wrong := range [][]api.Seq{nil, {step(1<<21, 0, 0)}, {step(1<<21+2, 0, 0)}, append([]api.Seq{step(0, 2, 1)}, l...)} {
				if told, e := x.s.Chunk(b, len(ahead), 0, wrong); len(told) != 0 || e != api.ErrMalformed {
					t.Errorf("%d bytes, %d", len(told), int(e))
				}
			}
			if *x.s != old {
				t.Error("the state was changed")
			}
		}
	}
}

// P14.2, R2: the same again tells the same.
func TestSameAgain(t *testing.T) {
	r := rand.New(rand.NewSource(13))
	x, ahead := worn(t, 1, 2, 3)
	y, _ := worn(t, 1, 2, 3)
	for range 20 {
		b, l := randomSteps(t, r, ahead, 500)
		first := x.tells(b, len(ahead), 7, l)
		worn(t, 4, 0, 0)
		second := y.tells(b, len(ahead), 7+1<<30, l)
		if !bytes.Equal(first, second) || *x.s != *y.s {
			t.Fatal("the same chunk is told otherwise")
		}
		ahead = b
	}
}
