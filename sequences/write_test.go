package sequences

import (
	"math"
	"math/rand"
	"slices"
	"testing"

	"baler/api"
)

// kindsToldIn gives the kinds of the tables of a section that has steps.
func kindsToldIn(b []byte) [3]int {
	at := 1
	if b[0] >= 128 {
		at++
	}
	if b[0] == 255 {
		at++
	}
	return [3]int{int(b[at]) / 64, int(b[at]) / 16 % 4, int(b[at]) / 4 % 4}
}

// writes writes steps, and looks if what was handed in, with the room behind its end, stays as it is.
func writes(t *testing.T, l []api.Seq) []byte {
	t.Helper()
	stuff := []api.Seq{{Lits: 1, Match: 2, Back: 3}, {Lits: 4, Match: 5, Back: 6}}
	room := slices.Concat(l, stuff)
	b, e := Write(room[:len(l)])
	if e != api.OK {
		t.Fatalf("Write of %d steps: %d", len(l), int(e))
	}
	if !slices.Equal(room, slices.Concat(l, stuff)) {
		t.Fatal("Write has changed what it was handed")
	}
	if len(l) > 0 {
		if kinds := kindsToldIn(b); slices.Contains(kinds[:], 3) {
			t.Fatalf("%d steps: kinds %v", len(l), kinds)
		}
	}
	return b
}

// checkWrite writes steps and reads them again, whatever stands ahead.
func checkWrite(t *testing.T, l []api.Seq) []byte {
	t.Helper()
	b := writes(t, l)
	for _, ahead := range []Tables{{}, {Lits: alone(1).cells, Back: untold(t, ofBack).cells, Match: make([]api.Cell, 5)}} {
		if a := reads(t, b, ahead); a.e != api.OK || !slices.Equal(a.l, l) {
			t.Fatalf("%d steps, in %d bytes: read as %d steps, error %d", len(l), len(b), len(a.l), int(a.e))
		}
	}
	return b
}

// P13.2, P13.5: no steps.
func TestWriteNothing(t *testing.T) {
	for _, l := range [][]api.Seq{nil, {}} {
		if b := checkWrite(t, l); !slices.Equal(b, []byte{0}) {
			t.Errorf("% x", b)
		}
	}
}

// P13.2, P13.5: all edges of the values, one by one and all together.
func TestWriteEdges(t *testing.T) {
	var all []api.Seq
	lits := []int{0, 1, 15, 16, 17, 18, 63, 64, 65535, 65536, 131070, 131071}
	matches := []int{3, 4, 34, 35, 36, 37, 130, 131, 65538, 65539, 131073, 131074}
	backs := []int{1, 2, 3, 4, 5, 7, 8, 1<<27 - 1, 1 << 27, 1<<28 - 1, 1 << 28}
	for _, x := range lits {
		for _, y := range matches {
			for _, z := range backs {
				step := api.Seq{Lits: x, Match: y, Back: z}
				checkWrite(t, []api.Seq{step})
				all = append(all, step)
			}
		}
	}
	for _, step := range all {
		checkWrite(t, []api.Seq{step, step, {Lits: 1, Match: 3, Back: 1}, step})
	}
	checkWrite(t, all)
	slices.Reverse(all)
	checkWrite(t, all)
}

// P13.2, P13.5: the least and the greatest value of every code, alone, many times and among the others.
func TestWriteAllCodes(t *testing.T) {
	var all []api.Seq
	for values := range 3 {
		for code, s := range spansOfAll[values] {
			for _, value := range []int{s.least, s.least + 1<<s.bits/2, s.least + 1<<s.bits - 1} {
				if values == ofBack && value > 1<<28 {
					continue
				}
				told := [3]int{ofLits: 1, ofBack: 1, ofMatch: 3}
				told[values] = value
				step := api.Seq{Lits: told[ofLits], Match: told[ofMatch], Back: told[ofBack]}
				checkWrite(t, []api.Seq{step})
				if b := checkWrite(t, slices.Repeat([]api.Seq{step}, 300)); len(b) > 6+300*s.bits/8+1 {
					t.Errorf("code %d: 300 times in %d bytes", code, len(b))
				}
				all = append(all, step)
			}
		}
	}
	r := rand.New(rand.NewSource(1310))
	for range 20 {
		r.Shuffle(len(all), func(i, j int) { all[i], all[j] = all[j], all[i] })
		checkWrite(t, all)
	}
}

// someSteps makes steps, most of them small.
func someSteps(r *rand.Rand, n int, most api.Seq) []api.Seq {
	l := make([]api.Seq, n)
	for k := range l {
		l[k] = api.Seq{Lits: r.Intn(1 + r.Intn(most.Lits+1)), Match: 3 + r.Intn(1+r.Intn(most.Match-2)), Back: 1 + r.Intn(1+r.Intn(most.Back))}
	}
	return l
}

// P13.2, P13.5: few steps and many, of few values and of many, against the model.
func TestWriteMany(t *testing.T) {
	r := rand.New(rand.NewSource(1311))
	kinds := [3][4]int{}
	for k := range 3000 {
		n := 1 + r.Intn(1+r.Intn(400))
		if k%100 == 0 {
			n = 3000
		}
		most := [...]api.Seq{
			{Lits: 0, Match: 3, Back: 1}, {Lits: 1, Match: 4, Back: 2}, {Lits: 3, Match: 3, Back: 1 << 28}, {Lits: 0, Match: 40, Back: 100},
			{Lits: 20, Match: 100, Back: 5000}, {Lits: 131071, Match: 131074, Back: 1 << 28}, {Lits: 131071, Match: 3, Back: 8},
		}[r.Intn(7)]
		for values, kind := range kindsToldIn(checkWrite(t, someSteps(r, n, most))) {
			kinds[values][kind]++
		}
	}
	for values, seen := range kinds {
		if seen[0] == 0 || seen[1] == 0 || seen[2] == 0 {
			t.Errorf("values %d: kinds %v", values, seen)
		}
	}
}

// P13.2, P13.5: how many steps there are, at the edges of the number's forms; small steps, so that the section is no longer than
// Read takes it.
func TestWriteNumbers(t *testing.T) {
	r := rand.New(rand.NewSource(1312))
	for _, n := range []int{1, 2, 126, 127, 128, 129, 255, 256, 257, 32511, 32512, 32513, 65534, 65535} {
		same := slices.Repeat([]api.Seq{{Lits: 15, Match: 34, Back: 1}}, n)
		if b := checkWrite(t, same); len(b) > 8 {
			t.Errorf("%d steps that are all alike: % x", n, b[:min(len(b), 20)])
		}
		// By the tables that are not told these take 17 bits each, which is too much for 65535 of them.
		same[0].Lits, same[n/2].Match, same[n-1].Back = 14, 33, 2
		checkWrite(t, same)
		checkWrite(t, someSteps(r, n, api.Seq{Lits: 8, Match: 10, Back: 8}))
	}
}

// P13.2: more than 65535 steps.
func TestWriteTooMany(t *testing.T) {
	for _, n := range []int{65536, 65537, 98047, 200000} {
		for _, step := range []api.Seq{{Match: 3, Back: 1}, {Lits: 131071, Match: 131074, Back: 1 << 28}} {
			if b, e := Write(slices.Repeat([]api.Seq{step}, n)); e != api.ErrLong || len(b) != 0 {
				t.Errorf("%d steps: %d bytes, %d", n, len(b), int(e))
			}
		}
	}
}

// P13.2: 65535 steps are taken, however great they are. Of the greatest ones the section has more bytes than Read takes.
func TestWriteGreatSteps(t *testing.T) {
	for _, n := range []int{100, 65535} {
		l := slices.Repeat([]api.Seq{{Lits: 131071, Match: 131074, Back: 1 << 28}, {Lits: 65536, Match: 70000, Back: 12345678}}, (n+1)/2)[:n]
		b := writes(t, l)
		if a := readLongModel(b, Tables{}); a.e != api.OK || !slices.Equal(a.l, l) {
			t.Errorf("%d steps: the model reads %d, error %d", n, len(a.l), int(a.e))
		}
		if _, _, e := Read(b, Tables{}); (e == api.OK) != (len(b) <= api.MaxBlock) {
			t.Errorf("%d steps in %d bytes: %d", n, len(b), int(e))
		}
	}
}

// P13.2: values one past each bound and far past it, alone, at each place among others, and ahead of too many steps.
func TestWriteWrongSteps(t *testing.T) {
	good := api.Seq{Lits: 1, Match: 3, Back: 1}
	var wrong []api.Seq
	for _, x := range []int{-1, math.MinInt, 131072, math.MaxInt, 1 << 32} {
		wrong = append(wrong, api.Seq{Lits: x, Match: 3, Back: 1})
	}
	for _, x := range []int{2, 1, 0, -1, math.MinInt, 131075, math.MaxInt, 1<<32 + 3} {
		wrong = append(wrong, api.Seq{Lits: 1, Match: x, Back: 1})
	}
	for _, x := range []int{0, -1, math.MinInt, 1<<28 + 1, 1 << 29, 1<<32 + 1, math.MaxInt} {
		wrong = append(wrong, api.Seq{Lits: 1, Match: 3, Back: x})
	}
	wrong = append(wrong, api.Seq{}, api.Seq{Lits: -1, Match: -1, Back: -1})
	many := slices.Repeat([]api.Seq{good}, 65537)
	for _, step := range wrong {
		for _, l := range [][]api.Seq{{step}, {good, step}, {step, good}, {good, step, good}, {step, step}} {
			if b, e := Write(l); e != api.ErrArg || len(b) != 0 {
				t.Errorf("Write(%v) = % x, %d", l, b, int(e))
			}
		}
		// ErrArg is named ahead of ErrLong.
		for _, at := range []int{0, 65534, 65535, 65536} {
			many[at] = step
			if b, e := Write(many); e != api.ErrArg || len(b) != 0 {
				t.Errorf("too many steps, number %d %v: %d bytes, %d", at, step, len(b), int(e))
			}
			many[at] = good
		}
	}
	if _, e := Write(many); e != api.ErrLong {
		t.Errorf("too many steps: %d", int(e))
	}
}

// R3, R2: what Write tells is new memory, and the same each time.
func TestWriteGivesNewMemory(t *testing.T) {
	r := rand.New(rand.NewSource(1313))
	for _, n := range []int{0, 1, 20, 500} {
		l := someSteps(r, n, api.Seq{Lits: 30, Match: 60, Back: 3000})
		one, two := writes(t, l), writes(t, l)
		kept := slices.Clone(one)
		spoil(one, 0xee)
		spoil(l, api.Seq{Lits: 9, Match: 9, Back: 9})
		if !slices.Equal(two, kept) {
			t.Errorf("%d steps: answers share memory, or are unlike", n)
		}
	}
}

// The section is no longer than one by the tables that are not told.
func TestWriteIsShort(t *testing.T) {
	r := rand.New(rand.NewSource(1314))
	for range 500 {
		h := hand{ways: [3]way{untold(t, ofLits), untold(t, ofBack), untold(t, ofMatch)}}
		h.points = somePoints(r, h.ways, 1+r.Intn(300))
		for k, p := range h.points {
			if p[ofBack].code == 28 {
				h.points[k][ofBack].extra = 0
			}
		}
		// The program takes another last state: each of the three may cost a bit more than by hand.
		if b, other := checkWrite(t, h.steps()), h.section(t); len(b) > len(other)+1 {
			t.Fatalf("%d bytes, by hand %d", len(b), len(other))
		}
	}
}

// Codes are found by halving, in lists of all lengths.
func TestLastUpTo(t *testing.T) {
	for n := range 60 {
		var rising []int
		var words []string
		for k := range n {
			rising = append(rising, 3*k+1)
			words = append(words, string(rune('b'+3*k)))
		}
		for x := -1; x < 3*n+3; x++ {
			want := max(0, min((x-1+3)/3-1, n-1))
			if got := lastUpTo(rising, x); got != want {
				t.Errorf("%d among %d: %d, want %d", x, n, got, want)
			}
			if x >= 0 && lastUpTo(words, string(rune('a'+x))) != want {
				t.Errorf("word %d among %d", x, n)
			}
		}
	}
}
