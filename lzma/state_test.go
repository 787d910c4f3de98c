package lzma

import (
	"math/rand"
	"reflect"
	"testing"

	"baler/api"
)

// eachNumber calls look for each number of 16 bits in v, in however many structs and arrays.
func eachNumber(v reflect.Value, look func(uint64)) {
	switch v.Kind() {
	case reflect.Struct:
		for k := range v.NumField() {
			eachNumber(v.Field(k), look)
		}
	case reflect.Array:
		for k := range v.Len() {
			eachNumber(v.Index(k), look)
		}
	default:
		look(v.Uint())
	}
}

// wantFirst looks that a state is as at first, with these settings.
func wantFirst(t *testing.T, s *State, lc, lp, pb int) {
	t.Helper()
	if s == nil {
		t.Fatal("no state")
	}
	if s.settings != (settings{lc, lp, pb}) || s.phase != 0 || s.reps != [4]uint32{} {
		t.Fatalf("settings %v, state %d, distances %v", s.settings, s.phase, s.reps)
	}
	count := 0
	eachNumber(reflect.ValueOf(s.chances), func(x uint64) {
		count++
		if x != 1024 {
			t.Fatalf("a chance of %d", x)
		}
	})
	if count < 16*768 {
		t.Fatalf("%d chances", count)
	}
}

// worn gives a state in which as good as nothing is as at first.
func worn(t *testing.T, lc, lp, pb int) *pair {
	t.Helper()
	x := pairOf(t, 1<<20).props(lc, lp, pb)
	p := x.pen(0).some(rand.New(rand.NewSource(1)), 20000)
	p.put(matchOf(70, 5), matchOf(60, 5), matchOf(50, 5), matchOf(40, 5))
	x.tells(p)
	if x.s.phase == 0 || x.s.reps[0] == 0 || x.s.reps[3] == 0 {
		t.Fatalf("%d, %v", x.s.phase, x.s.reps)
	}
	return x
}

// P12.1: a state as it is told; each a new one.
func TestNew(t *testing.T) {
	wantFirst(t, New(), 3, 0, 2)
	worn(t, 3, 0, 2)
	s := New()
	s.Chunk(windowOf(t, 9), 0, []byte{0, 200, 1, 2, 3, 4, 5}, 9)
	if *s == *New() {
		t.Error("a chunk that changes nothing")
	}
	wantFirst(t, New(), 3, 0, 2)
}

// P12.1: Reset makes all so again but the settings, and chunks are read so.
func TestReset(t *testing.T) {
	for _, set := range [][3]int{{3, 0, 2}, {0, 0, 0}, {0, 4, 4}, {4, 0, 1}, {2, 2, 3}} {
		x := worn(t, set[0], set[1], set[2])
		old := x.pen(0).text("abc").put(matchOf(2, 4), byteOf('x'), shortOf())
		x.reset()
		wantFirst(t, x.s, set[0], set[1], set[2])
		x.s.Reset()
		wantFirst(t, x.s, set[0], set[1], set[2])
		x.tells(x.pen(7).text("abc").put(matchOf(2, 4), byteOf('x'), shortOf()))
		x.reset()
		if told, e := x.asks(0, old.close(), len(old.told)); e == api.OK && string(told) == string(old.told) {
			t.Error("a chunk of the state ahead of Reset is read as if nothing had been reset")
		}
	}
}

// P12.1, R1: a nil state.
func TestNilState(t *testing.T) {
	var s *State
	s.Reset()
	for b := range 256 {
		if e := s.Props(byte(b)); e != api.ErrNil {
			t.Errorf("Props(%d) of nil: %d", b, int(e))
		}
	}
}

// P12.2: the settings that are taken are just these, and the state is as at first then; the others change nothing.
func TestProps(t *testing.T) {
	taken := map[byte][3]int{}
	for lc := range 9 {
		for lp := range 5 {
			for pb := range 5 {
				if lc+lp <= 4 {
					taken[byte((pb*5+lp)*9+lc)] = [3]int{lc, lp, pb}
				}
			}
		}
	}
	if len(taken) != 75 {
		t.Fatal(len(taken))
	}
	old := *worn(t, 2, 1, 3).s
	for b := range 256 {
		for _, from := range []State{*New(), old} {
			s := from
			e := s.Props(byte(b))
			set, ok := taken[byte(b)]
			switch {
			case ok && e != api.OK, !ok && e != api.ErrMalformed:
				t.Errorf("Props(%d): %d", b, int(e))
			case ok:
				wantFirst(t, &s, set[0], set[1], set[2])
			case s != from:
				t.Errorf("Props(%d) has changed the state", b)
			}
		}
	}
}

// P12.2: the chapter's examples, and the edges.
func TestPropsByHand(t *testing.T) {
	for b, want := range map[byte]api.Errno{
		0x5d: api.OK, 0xe1: api.ErrMalformed, 4 + 9: api.ErrMalformed,
		0: api.OK, 4: api.OK, 5: api.ErrMalformed, 8: api.ErrMalformed, 9: api.OK, 3 + 9: api.OK,
		4 * 9: api.OK, 4*9 + 1: api.ErrMalformed, 4 * 45: api.OK, 4*45 + 4: api.OK, 4*45 + 4*9: api.OK, 4*45 + 4*9 + 1: api.ErrMalformed,
		// b of 224 is lc 8, lp 4, pb 4; b of 225 (e1) would be pb 5 and all else 0.
		224: api.ErrMalformed, 226: api.ErrMalformed, 255: api.ErrMalformed,
	} {
		if e := New().Props(b); e != want {
			t.Errorf("Props(%d): %d, not %d", b, int(e), int(want))
		}
	}
	s := New()
	s.Props(4*45 + 1*9 + 2)
	wantFirst(t, s, 2, 1, 4)
	s.Props(0x5d)
	wantFirst(t, s, 3, 0, 2)
}

// Words: the state's changes, each of them.
func TestPhases(t *testing.T) {
	for _, x := range []struct {
		word string
		next func(phase) phase
		want [phases]phase
	}{
		{"byte", phase.behindByte, [phases]phase{0, 0, 0, 0, 1, 2, 3, 4, 5, 6, 4, 5}},
		{"match", phase.behindMatch, [phases]phase{7, 7, 7, 7, 7, 7, 7, 10, 10, 10, 10, 10}},
		{"repeat", phase.behindRepeat, [phases]phase{8, 8, 8, 8, 8, 8, 8, 11, 11, 11, 11, 11}},
		{"short repeat", phase.behindShort, [phases]phase{9, 9, 9, 9, 9, 9, 9, 11, 11, 11, 11, 11}},
	} {
		for p, want := range x.want {
			if got := x.next(phase(p)); got != want {
				t.Errorf("behind a %s: %d of %d, not %d", x.word, got, p, want)
			}
		}
	}
}
