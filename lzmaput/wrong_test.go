package lzmaput

import (
	"bytes"
	"math"
	"math/rand"
	"slices"
	"testing"

	"baler/api"
)

// wantRefused looks for an error and nothing else, and that the next chunk is as it would have been without that call.
func wantRefused(t *testing.T, b []byte, from, total int, l []api.Seq, want api.Errno) {
	t.Helper()
	x := pairOf(t, 2, 1, 1)
	text := []byte("a state that has learned, a state ")
	x.tells(text[:26], 0, 0, []api.Seq{step(26, 0, 0)})
	x.tells(text, 26, 26, []api.Seq{step(0, 8, 26)})
	old := *x.s
	if told, e := x.s.Chunk(b, from, total, l); len(told) != 0 || e != want {
		t.Errorf("Chunk(%.60q, %d, %d, %v) = % x, %d; want %d", b, from, total, l, told, int(e), int(want))
	}
	if *x.s != old {
		t.Errorf("Chunk(%.60q, %d, %d, %v): the state was changed", b, from, total, l)
	}
	next := append(slices.Clone(text), "that goes on"...)
	steps := []api.Seq{step(0, 5, 26), step(7, 0, 0)}
	told := x.tells(next, len(text), len(text), steps)
	if twin, _ := old.Chunk(next, len(text), len(text), steps); !bytes.Equal(told, twin) {
		t.Errorf("behind Chunk(%.60q, %d, %d, %v) a chunk is told otherwise", b, from, total, l)
	}
}

// P14.2: from and total that are not let in, ahead of steps that make nothing and of texts that are too long.
func TestArgs(t *testing.T) {
	for _, x := range []struct{ from, total int }{
		{-1, 0}, {4, 0}, {5, 0}, {math.MinInt, 0}, {math.MaxInt, 0}, {0, -1}, {0, math.MinInt}, {3, -1}, {-1, -1}, {4, math.MinInt}, {math.MinInt, math.MinInt}, {0, -16},
	} {
		for _, l := range [][]api.Seq{nil, {step(3, 0, 0)}, {step(-1, 0, 0)}, {step(4, 0, 0)}} {
			wantRefused(t, []byte("abc"), x.from, x.total, l, api.ErrArg)
		}
	}
	long := make([]byte, 1<<21+1)
	for _, l := range [][]api.Seq{nil, {step(len(long), 0, 0)}} {
		wantRefused(t, long, -1, 0, l, api.ErrArg)
		wantRefused(t, long, len(long)+1, 0, l, api.ErrArg)
		wantRefused(t, long, 0, -1, l, api.ErrArg)
	}
	wantRefused(t, nil, 1, 0, nil, api.ErrArg)
	wantRefused(t, nil, -1, 0, nil, api.ErrArg)
	wantRefused(t, []byte{}, 0, -1, nil, api.ErrArg)
}

// P14.2: no byte at all.
func TestNoBytes(t *testing.T) {
	for _, l := range [][]api.Seq{nil, {}, {step(0, 0, 0)}, {step(0, 0, 5), step(0, 0, 0)}, {step(1, 0, 0)}, {step(0, 2, 1)}} {
		wantRefused(t, nil, 0, 0, l, api.ErrMalformed)
		wantRefused(t, []byte{}, 0, 7, l, api.ErrMalformed)
		wantRefused(t, []byte("abc"), 3, 0, l, api.ErrMalformed)
		wantRefused(t, []byte("aaaa"), 4, 4, l, api.ErrMalformed)
	}
}

// P14.2: steps that make another text, or none.
func TestWrongSteps(t *testing.T) {
	for _, x := range []struct {
		b    string
		from int
		l    []api.Seq
	}{
		// Fewer bytes than there are, more than there are.
		{"abc", 0, nil}, {"abc", 0, []api.Seq{step(0, 0, 0)}}, {"abc", 0, []api.Seq{step(2, 0, 0)}}, {"abc", 0, []api.Seq{step(1, 0, 0), step(1, 0, 0)}},
		{"abc", 0, []api.Seq{step(4, 0, 0)}}, {"abc", 1, []api.Seq{step(3, 0, 0)}}, {"abc", 0, []api.Seq{step(3, 0, 0), step(1, 0, 0)}},
		{"aaaaa", 0, []api.Seq{step(1, 3, 1)}}, {"aaaaa", 0, []api.Seq{step(1, 5, 1)}}, {"aaaaa", 1, []api.Seq{step(0, 5, 1)}},
		{"aaaaa", 0, []api.Seq{step(1, 4, 1), step(1, 0, 0)}}, {"aaaaa", 0, []api.Seq{step(1, 4, 1), step(0, 2, 1)}},
		{"aaaaa", 2, []api.Seq{step(0, 2, 1)}}, {"aaaaa", 2, []api.Seq{step(0, 4, 2)}},
		// Bytes that do not stand there: the first one, the last one, one between.
		{"abcdabcx", 0, []api.Seq{step(4, 4, 4)}}, {"abcdxbcd", 0, []api.Seq{step(4, 4, 4)}}, {"abcdaxcd", 0, []api.Seq{step(4, 4, 4)}},
		{"abab", 0, []api.Seq{step(2, 2, 1)}}, {"aaab", 0, []api.Seq{step(1, 3, 1)}}, {"abcabc", 3, []api.Seq{step(0, 3, 2)}},
		{"abcabcx", 3, []api.Seq{step(0, 4, 3)}}, {"aaaaab", 0, []api.Seq{step(1, 2, 1), step(0, 3, 2)}},
		// Backs of 0, and beyond the first byte.
		{"aaaa", 0, []api.Seq{step(0, 4, 1)}}, {"aaaa", 0, []api.Seq{step(0, 2, 0), step(2, 0, 0)}}, {"aaaa", 0, []api.Seq{step(2, 2, 0)}},
		{"aaaa", 0, []api.Seq{step(2, 2, 3)}}, {"aaaa", 2, []api.Seq{step(0, 2, 3)}}, {"aaaa", 1, []api.Seq{step(1, 2, 3)}}, {"aaaa", 2, []api.Seq{step(0, 2, math.MaxInt)}},
		// A Match of 1.
		{"aa", 0, []api.Seq{step(1, 1, 1)}}, {"aaa", 0, []api.Seq{step(1, 1, 1), step(1, 0, 0)}}, {"aa", 1, []api.Seq{step(0, 1, 1)}},
		// Numbers below 0.
		{"abc", 0, []api.Seq{step(-1, 0, 0)}}, {"abc", 0, []api.Seq{step(math.MinInt, 0, 0), step(3, 0, 0)}}, {"abc", 0, []api.Seq{step(4, 0, 0), step(-1, 0, 0)}},
		{"aaaa", 0, []api.Seq{step(3, 2, 1), step(-1, 0, 0)}}, {"aaaa", 2, []api.Seq{step(-1, 3, 1)}}, {"aaaa", 0, []api.Seq{step(4, -1, 1), step(1, 0, 0)}},
		{"aaaa", 0, []api.Seq{step(4, -1, 1)}}, {"aaaa", 0, []api.Seq{step(4, math.MinInt, 1)}}, {"aaaa", 0, []api.Seq{step(4, -2, 1), step(2, 0, 0)}},
		{"aaaa", 0, []api.Seq{step(2, 2, -1)}}, {"aaaa", 0, []api.Seq{step(2, 2, math.MinInt)}}, {"aaaa", 0, []api.Seq{step(4, 0, -1)}}, {"aaaa", 0, []api.Seq{step(4, 0, math.MinInt)}},
		// The greatest ints, and such as add up to just the text's length if they wrap round.
		{"aaaa", 0, []api.Seq{step(math.MaxInt, 0, 0)}}, {"aaaa", 0, []api.Seq{step(1, math.MaxInt, 1)}}, {"aaaa", 1, []api.Seq{step(0, math.MaxInt, 1)}},
		{"aaaa", 0, []api.Seq{step(math.MaxInt, 0, 0), step(math.MaxInt, 0, 0), step(6, 0, 0)}},
		{"aaaa", 0, []api.Seq{step(4, math.MaxInt, 1), step(0, math.MaxInt, 1), step(2, 0, 0)}}, {"aaaa", 0, []api.Seq{step(2, math.MaxInt, 1), step(math.MaxInt, 4, 1)}},
		{"aaaa", 1, []api.Seq{step(math.MaxInt, 0, 0), step(math.MaxInt, 0, 0), step(5, 0, 0)}}, {"aaaa", 0, []api.Seq{step(math.MinInt, 0, 0), step(math.MinInt, 0, 0), step(4, 0, 0)}},
		{"aaaa", 0, []api.Seq{step(math.MaxInt, math.MaxInt, math.MaxInt), step(6, 0, 0)}}, {"aaaa", 2, []api.Seq{step(0, 2, math.MaxInt), step(0, 0, 0)}},
	} {
		wantRefused(t, []byte(x.b), x.from, x.from, x.l, api.ErrMalformed)
	}
}

// P14.2: lengths of a Match that are not let in, next to those that are.
func TestWrongLengths(t *testing.T) {
	for match := -3; match < 300; match++ {
		b := make([]byte, 400)
		l := []api.Seq{step(10, match, 1), step(390-match, 0, 0)}
		if match == 0 || match >= 2 && match <= 273 {
			pairOf(t, 3, 0, 2).tells(b, 0, 0, l)
			continue
		}
		wantRefused(t, b, 0, 0, l, api.ErrMalformed)
		wantRefused(t, b, 100, 100, []api.Seq{step(10, match, 100), step(290-match, 0, 0)}, api.ErrMalformed)
	}
}

// P14.2: too many bytes; ahead of that, steps that make them not.
func TestTooLong(t *testing.T) {
	long := make([]byte, 1<<21+1)
	wantRefused(t, long, 0, 0, []api.Seq{step(len(long), 0, 0)}, api.ErrLong)
	wantRefused(t, long, 0, 0, []api.Seq{step(len(long), 0, 99), step(0, 0, 0)}, api.ErrLong)
	wantRefused(t, long, 0, 0, []api.Seq{step(len(long)-10, 10, 5)}, api.ErrLong)
	wantRefused(t, append(long, 1), 1, 0, []api.Seq{step(len(long), 0, 0)}, api.ErrLong)
	for _, l := range [][]api.Seq{nil, {step(len(long)-1, 0, 0)}, {step(len(long)-1, 1, 1)}, {step(len(long)-274, 274, 1)}, {step(len(long), 0, -1)}} {
		wantRefused(t, long, 0, 0, l, api.ErrMalformed)
	}
}

// P14.2, R10: steps with some number changed: each is refused, or is read as the text.
func TestChangedSteps(t *testing.T) {
	r := rand.New(rand.NewSource(16))
	refused, taken := 0, 0
	for range 3000 {
		ahead := bytes.Repeat([]byte("ab"), r.Intn(4))
		b, l := randomSteps(t, r, ahead, 1+r.Intn(60))
		for range 1 + r.Intn(2) {
			s := &l[r.Intn(len(l))]
			*[]*int{&s.Lits, &s.Match, &s.Back}[r.Intn(3)] += []int{-1, 1, -2, 2, 300, math.MinInt, math.MaxInt}[r.Intn(7)]
		}
		x := pairOf(t, 3, 0, 2)
		old := *x.s
		if told, e := x.s.Chunk(b, len(ahead), 0, l); e != api.OK {
			refused++
			if e != api.ErrMalformed || len(told) != 0 || *x.s != old {
				t.Fatalf("%d, % x", int(e), told)
			}
			continue
		}
		taken++
		*x.s = old
		x.tells(b, len(ahead), 0, l)
	}
	if refused < 1000 || taken < 10 {
		t.Errorf("%d were refused, %d taken", refused, taken)
	}
}

// R3: what is handed in is neither changed nor kept, with the room behind it; what is told is new memory each time.
func TestMemory(t *testing.T) {
	r := rand.New(rand.NewSource(17))
	x, twin := pairOf(t, 3, 0, 2), pairOf(t, 3, 0, 2)
	ahead := noise(r, 300)
	for range 30 {
		b, l := randomSteps(t, r, ahead, 300)
		want := twin.tells(b, len(ahead), len(ahead), l)
		text, steps := append(slices.Clone(b), noise(r, 99)...)[:len(b)], append(slices.Clone(l), step(7, 8, 9), step(1, 2, 3))[:len(l)]
		room, stepRoom := slices.Clone(text[:cap(text)]), slices.Clone(steps[:cap(steps)])
		told, e := x.s.Chunk(text, len(ahead), len(ahead), steps)
		if e != api.OK || !bytes.Equal(told, want) {
			t.Fatalf("%d, or another chunk", int(e))
		}
		if !bytes.Equal(text[:cap(text)], room) || !slices.Equal(steps[:cap(steps)], stepRoom) {
			t.Fatal("Chunk has changed what it was handed")
		}
		// Written over, none of it may show in the next chunk.
		clear(text[:cap(text)])
		clear(steps[:cap(steps)])
		clear(told[:cap(told)])
		ahead = b
	}
	one, two := pairOf(t, 3, 0, 2), pairOf(t, 3, 0, 2)
	first, _ := one.s.Chunk([]byte("abcd"), 0, 0, []api.Seq{step(4, 0, 0)})
	kept := slices.Clone(first)
	second, _ := two.s.Chunk([]byte("abcd"), 0, 0, []api.Seq{step(4, 0, 0)})
	clear(second[:cap(second)])
	one.s.Chunk([]byte("abcdefgh"), 4, 4, []api.Seq{step(4, 0, 0)})
	if !bytes.Equal(first, kept) {
		t.Error("what two calls tell shares memory")
	}
}
