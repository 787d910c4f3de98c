package weights

import (
	"bytes"
	"math/rand"
	"slices"
	"testing"

	"baler/api"
)

// checkWrite writes weights that make a code, and reads them again.
func checkWrite(t *testing.T, weights []uint8) []byte {
	t.Helper()
	room := slices.Concat(weights, []uint8{77, 77, 77})
	b, e := Write(room[:len(weights)])
	if e != api.OK {
		t.Fatalf("Write(%v): %d", weights, int(e))
	}
	if !bytes.Equal(room, slices.Concat(weights, []uint8{77, 77, 77})) {
		t.Fatal("Write has changed what it was handed")
	}
	if len(b) == 0 || len(b) > 129 {
		t.Fatalf("Write(%v): %d bytes", weights, len(b))
	}
	if len(weights) > 129 && b[0] >= 128 {
		t.Fatalf("Write(%v) is of the first kind: % x", weights, b)
	}
	own, used, e := Read(b)
	if e != api.OK || used != len(b) || !bytes.Equal(own, weights) {
		t.Fatalf("Write(%v) = % x, read as %v, %d, %d", weights, b, own, used, int(e))
	}
	own, used, e = readModel(b)
	if e != api.OK || used != len(b) || !bytes.Equal(own, weights) {
		t.Fatalf("Write(%v) = % x, by the model %v, %d, %d", weights, b, own, used, int(e))
	}
	return b
}

// P9.2, P9.5: codes at the edges.
func TestWriteAtTheEdges(t *testing.T) {
	for _, weights := range someCodes() {
		if _, ok := isCode(weights); !ok {
			t.Fatalf("%v make no code", weights)
		}
		b := checkWrite(t, weights)
		wantRead(t, b, weights)
	}
}

// P9.2: one weight is told in four bits, as there is no other way.
func TestWriteTwoWeights(t *testing.T) {
	if b := checkWrite(t, []uint8{1, 1}); !bytes.Equal(b, []byte{0x80, 0x10}) {
		t.Errorf("% x", b)
	}
}

// P9.2: each number of weights, 128, 129 and 130 among them: many zeros, many ones, and some.
func TestWriteEachNumber(t *testing.T) {
	r := rand.New(rand.NewSource(92))
	for n := 2; n <= 256; n++ {
		zeros := row(n, 0)
		zeros[r.Intn(n-1)], zeros[n-1] = 1, 1
		checkWrite(t, zeros)
		ones := row(n, 1)
		for k := range ones[:n-1] {
			if rest := n - k; rest&(rest-1) == 0 {
				// As many ones as a power of 2, and zeros ahead of them.
				ones = join(row(k, 0), row(rest, 1))
				break
			}
		}
		checkWrite(t, ones)
		for m := 1; m <= min(n-1, 11); m++ {
			checkWrite(t, someCode(r, n, m))
		}
	}
}

// P9.2: weights that are told in four bits are never told in more bytes than these take.
func TestWriteTakesTheShorterKind(t *testing.T) {
	r := rand.New(rand.NewSource(93))
	kinds := map[bool]int{}
	for range 2000 {
		n := 13 + r.Intn(117)
		b := checkWrite(t, someCode(r, n, 2+r.Intn(10)))
		if len(b) > 1+n/2 {
			t.Fatalf("%d weights in %d bytes", n, len(b))
		}
		kinds[b[0] < 128]++
	}
	if kinds[true] < 50 || kinds[false] < 50 {
		t.Errorf("kinds: %v", kinds)
	}
}

// P9.2: many codes of many weights, whatever their order.
func TestWriteManyCodes(t *testing.T) {
	r := rand.New(rand.NewSource(94))
	for range 3000 {
		checkWrite(t, someCode(r, 200+r.Intn(57), 8+r.Intn(4)))
	}
}

// P9.2: the codes that are hardest to tell, found by going from code to code as long as the description gets no shorter.
func TestWriteTheHardest(t *testing.T) {
	r := rand.New(rand.NewSource(95))
	most := 0
	for range 4 {
		weights := someCode(r, 256, 11)
		long := len(checkWrite(t, weights))
		for range 700 {
			next := changed(r, weights)
			if b := checkWrite(t, next); len(b) >= long {
				weights, long = next, len(b)
			}
		}
		most = max(most, long)
	}
	if most < 80 {
		t.Errorf("the longest has %d bytes: that is not hard", most)
	}
}

// changed gives another code of as many weights and the same sum: a weight is halved into a place of 0, two alike are made one, or two change places.
func changed(r *rand.Rand, weights []uint8) []uint8 {
	for {
		next := slices.Clone(weights)
		i, k := r.Intn(len(next)), r.Intn(len(next))
		switch {
		case r.Intn(2) == 0:
			next[i], next[k] = next[k], next[i]
		case next[i] > 1 && next[k] == 0:
			next[i]--
			next[k] = next[i]
		case i != k && next[i] > 0 && next[i] == next[k]:
			next[i]++
			next[k] = 0
		}
		if _, ok := isCode(next); ok {
			return next
		}
	}
}

// P9.2: by the sure counts alone each code is told in few enough bytes. Their worst case is reckoned, and not met but by some of these.
func TestSureCounts(t *testing.T) {
	r := rand.New(rand.NewSource(96))
	codes := [][]uint8{
		join(row(187, 0), []uint8{1, 1, 2, 3, 4, 5}, row(63, 6)),
		join(row(218, 0), []uint8{1, 1, 2, 3, 4, 5, 6}, row(31, 7)),
		join(row(233, 0), []uint8{1, 1, 2, 3, 4, 5, 6, 7}, row(15, 8)),
		join(row(124, 0), []uint8{1, 1, 2, 3, 4}, row(127, 5)),
		row(256, 1),
	}
	for range 500 {
		codes = append(codes, someCode(r, 256, 11))
	}
	for _, weights := range codes {
		if _, ok := isCode(weights); !ok || len(weights) != 256 {
			t.Fatalf("%d weights, %v", len(weights), weights)
		}
		told := weights[:255]
		b, ok := putByStates(told, sureCounts(), 6)
		if !ok || len(b) > 117 {
			t.Fatalf("%v are told in %d bytes", weights, len(b))
		}
		if own, _, e := readModel(b); e != api.OK || !bytes.Equal(own, weights) {
			t.Fatalf("%v are told as %v, %d", weights, own, int(e))
		}
	}
}

// P9.2, P9.3, P9.4: what makes no code is refused by all three, ahead of all other errors.
func TestNoCode(t *testing.T) {
	for name, weights := range map[string][]uint8{
		"nil":                  nil,
		"empty":                {},
		"one weight of 1":      {1},
		"one weight of 2":      {2},
		"one weight of 0":      {0},
		"two zeros":            {0, 0},
		"a last one of 0":      {1, 1, 0},
		"256, a last one of 0": join(row(128, 1), row(128, 0)),
		"257 weights":          join(row(255, 0), row(2, 1)),
		"257 ones and more":    join(row(256, 1), row(1, 9)),
		"weight 12":            {1, 1, 2, 3, 4, 5, 6, 7, 8, 9, 10, 11, 12},
		"weight 12 of two":     {1, 12},
		"weight 255":           {1, 1, 255},
		"weights of 255":       {255, 255},
		"weights of 65":        {1, 1, 65, 65},
		"weights of 64":        {1, 1, 64, 64, 64, 64},
		"no weight of 1":       {2, 2},
		"no weight of 1, many": row(256, 2),
		"one of 1 and zeros":   {0, 0, 1},
		"one of 1 and greater": {1, 2, 2},
		"a sum of 3":           {1, 1, 1},
		"a sum of 6":           {1, 1, 3},
		"a sum of 2^11 + 2":    {1, 1, 11, 11},
		"a sum of 2^12":        {1, 1, 2, 3, 4, 5, 6, 7, 8, 9, 10, 11, 11, 11},
		"a sum of 2^12, least": {11, 11, 11, 10, 9, 8, 7, 6, 5, 4, 3, 2, 1, 1},
	} {
		if _, ok := isCode(weights); ok {
			t.Fatalf("%s: they make a code", name)
		}
		kept := slices.Clone(weights)
		if b, e := Write(weights); e != api.ErrCode || len(b) != 0 {
			t.Errorf("%s: Write = % x, %d", name, b, int(e))
		}
		for _, n := range []int{-1, 0, 1, 131073} {
			for _, b := range [][]byte{nil, {0}, {1}, {3}} {
				if text, e := Unpack(weights, b, n); e != api.ErrCode || len(text) != 0 {
					t.Errorf("%s: Unpack(% x, %d) = % x, %d", name, b, n, text, int(e))
				}
			}
		}
		for _, b := range [][]byte{nil, {}, {0}, {1}, {255}, make([]byte, 131073)} {
			if tail, e := Pack(weights, b); e != api.ErrCode || len(tail) != 0 {
				t.Errorf("%s: Pack of %d bytes = % x, %d", name, len(b), tail, int(e))
			}
		}
		if !bytes.Equal(weights, kept) {
			t.Errorf("%s: weights were changed", name)
		}
	}
}

// P9.2: all small lists of weights: just those that make a code are written.
func TestWriteSmallLists(t *testing.T) {
	codes := 0
	for x := range 8 * 8 * 8 * 8 * 8 {
		for n := 1; n <= 5; n++ {
			weights := make([]uint8, n)
			for k, y := 0, x; k < n; k, y = k+1, y/8 {
				weights[k] = uint8(y % 8)
			}
			if n < 5 && x >= 1<<(3*n) {
				continue
			}
			if _, ok := isCode(weights); ok {
				checkWrite(t, weights)
				codes++
			} else if b, e := Write(weights); e != api.ErrCode || len(b) != 0 {
				t.Fatalf("Write(%v) = % x, %d", weights, b, int(e))
			}
		}
	}
	if codes < 100 {
		t.Errorf("%d codes", codes)
	}
}

// R3: what is told is new memory.
func TestWriteGivesNewMemory(t *testing.T) {
	for _, weights := range someCodes() {
		one, _ := Write(weights)
		two, _ := Write(weights)
		kept := slices.Clone(two)
		for k := range one[:cap(one)] {
			one[:cap(one)][k] = 0xee
		}
		if !bytes.Equal(two, kept) || !bytes.Equal(checkWrite(t, weights), kept) {
			t.Errorf("Write(%v) shares its answers", weights)
		}
	}
}

// R9: what is gone over may be left, and gone over again.
func TestIteratorsMayBeLeft(t *testing.T) {
	told := join(row(100, 1), row(28, 2))
	for range 2 {
		for _, stop := range []int{1, 2, 3} {
			n := 0
			for range descriptions(told) {
				if n++; n == stop {
					break
				}
			}
			if n != stop {
				t.Errorf("descriptions: left at %d", n)
			}
			n = 0
			for range tables(told) {
				if n++; n == stop {
					break
				}
			}
			if n != stop {
				t.Errorf("tables: left at %d", n)
			}
			n = 0
			for range words([]uint8{1, 1, 2, 3}, 3) {
				if n++; n == stop {
					break
				}
			}
			if n != stop {
				t.Errorf("words: left at %d", n)
			}
		}
	}
}
