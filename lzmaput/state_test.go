package lzmaput

import (
	"bytes"
	"math"
	"math/rand"
	"reflect"
	"testing"

	"baler/api"
)

// eachNumber calls look for each number of 16 bits in v, in however many structs and arrays.
func eachNumber(v reflect.Value, look func(uint64)) {
	switch v.Kind() {
	case reflect.Struct:
		for k := range v.NumField() {
			eachNumber(v.Field(k), look)
		}
	case reflect.Array:
		for k := range v.Len() {
			eachNumber(v.Index(k), look)
		}
	default:
		look(v.Uint())
	}
}

// wantFirst looks that a state is as at first, with these settings.
func wantFirst(t *testing.T, s *State, lc, lp, pb int) {
	t.Helper()
	if s.settings != (settings{lc, lp, pb}) || s.phase != 0 || s.reps != [4]uint32{} {
		t.Fatalf("settings %v, state %d, distances %v", s.settings, s.phase, s.reps)
	}
	eachNumber(reflect.ValueOf(s.chances), func(x uint64) {
		if x != 1024 {
			t.Fatalf("a chance of %d", x)
		}
	})
}

// worn gives a pair in which as good as nothing is as at first, and the text that it told.
func worn(t *testing.T, lc, lp, pb int) (*pair, []byte) {
	t.Helper()
	r := rand.New(rand.NewSource(1))
	x, b := pairOf(t, lc, lp, pb), words(r, 3000)
	x.parsed(b, 2, 40, 200, 900)
	all, l := randomSteps(t, r, b, 9000)
	x.tells(all, len(b), len(b), l)
	last := []api.Seq{step(0, 5, 900), step(0, 5, 800), step(0, 5, 700), step(0, 5, 600), step(1, 0, 0)}
	from := len(all)
	all = laid(t, all, []byte("!"), last)
	x.tells(all, from, from, last)
	if x.s.phase == 0 || x.s.reps[0] == 0 || x.s.reps[3] == 0 {
		t.Fatalf("state %d, distances %v", x.s.phase, x.s.reps)
	}
	return x, all
}

// P14.1: which settings make a state, of those from below all that are let in to above them.
func TestNew(t *testing.T) {
	states := 0
	for lc := -2; lc < 10; lc++ {
		for lp := -2; lp < 10; lp++ {
			for pb := -2; pb < 10; pb++ {
				s, e := New(lc, lp, pb)
				if lc < 0 || lp < 0 || pb < 0 || lc+lp > 4 || pb > 4 {
					if s != nil || e != api.ErrArg {
						t.Errorf("New(%d, %d, %d) = %v, %d", lc, lp, pb, s != nil, int(e))
					}
					continue
				}
				states++
				if s == nil || e != api.OK {
					t.Fatalf("New(%d, %d, %d) = %v, %d", lc, lp, pb, s != nil, int(e))
				}
				wantFirst(t, s, lc, lp, pb)
			}
		}
	}
	if states != 75 {
		t.Errorf("%d settings are let in", states)
	}
}

// P14.1, R7: settings at the ends of all ints, such as add up to a small number if they wrap round among them.
func TestNewOfGreatNumbers(t *testing.T) {
	far := []int{math.MinInt, math.MinInt + 1, math.MinInt + 4, -1, math.MaxInt, math.MaxInt - 3, math.MaxInt/2 + 1, 1 << 32, 1<<32 + 1}
	for _, a := range far {
		for _, b := range append(far, 0, 1, 2, 3, 4) {
			for _, x := range [][3]int{{a, b, 0}, {b, a, 0}, {a, b, 4}, {0, b, a}, {b, 0, a}, {b, b, a}} {
				if s, e := New(x[0], x[1], x[2]); s != nil || e != api.ErrArg {
					t.Errorf("New(%v) = %v, %d", x, s != nil, int(e))
				}
			}
		}
	}
}

// P14.1: each state is a new one: what one tells changes no other.
func TestStatesApart(t *testing.T) {
	x, b := worn(t, 3, 0, 2)
	y := pairOf(t, 3, 0, 2)
	wantFirst(t, y.s, 3, 0, 2)
	old := *x.s
	y.parsed(b, 1, 1000)
	if *x.s != old {
		t.Error("one state's chunks have changed another one")
	}
}

// P14.1: Reset makes all so again but the settings, and chunks are told as by a new state.
func TestReset(t *testing.T) {
	eachSetting(func(lc, lp, pb int) {
		x, b := worn(t, lc, lp, pb)
		l := []api.Seq{step(3, 3, 3), step(1, 0, 0)}
		next := laid(t, b, []byte("xyz!"), l)
		goesOn := *x.s
		unlike, _ := goesOn.Chunk(next, len(b), 7, l)
		x.reset()
		wantFirst(t, x.s, lc, lp, pb)
		told := x.tells(next, len(b), 7, l)
		if first := pairOf(t, lc, lp, pb).tells(next, len(b), 7, l); !bytes.Equal(told, first) {
			t.Errorf("behind Reset % x, by a new state % x", told, first)
		}
		if bytes.Equal(told, unlike) {
			t.Error("the chunk would be the same without Reset")
		}
		x.s.Reset()
		x.s.Reset()
		wantFirst(t, x.s, lc, lp, pb)
	})
}

// P14.1, P14.2, R1: a nil state: Reset does nothing, Chunk is ErrNil ahead of all that else is wrong.
func TestNilState(t *testing.T) {
	var s *State
	s.Reset()
	for _, from := range []int{0, 1, 3, 4, -1, math.MinInt, math.MaxInt} {
		for _, total := range []int{0, 1, -1, math.MinInt} {
			for _, l := range [][]api.Seq{nil, {step(3, 0, 0)}, {step(-1, -1, -1)}} {
				for _, b := range [][]byte{nil, []byte("abc"), make([]byte, 1<<21+1)} {
					if told, e := s.Chunk(b, from, total, l); len(told) != 0 || e != api.ErrNil {
						t.Errorf("Chunk of nil = % x, %d", told, int(e))
					}
				}
			}
		}
	}
}

// P14.2: what is behind each operation, in each state, as chapter 12 tells it.
func TestStateChanges(t *testing.T) {
	for p := range phase(phases) {
		aByte := max(0, int(p)-3)
		if p >= 10 {
			aByte = int(p) - 6
		}
		if got := p.behind(literal); int(got) != aByte {
			t.Errorf("behind a byte %d of %d", got, p)
		}
		aMatch, aRepeat := phase(7), phase(8)
		if p > 6 {
			aMatch, aRepeat = 10, 11
		}
		if m, r := p.behind(match), p.behind(repeat); m != aMatch || r != aRepeat {
			t.Errorf("behind a match %d, a repeat %d of %d", m, r, p)
		}
	}
}
