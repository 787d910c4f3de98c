package weights

import (
	"bytes"
	"math/rand"
	"slices"
	"testing"

	"baler/api"
	"baler/states"
)

// reads asks for a reading, and looks if b, with the room behind its end, stays as it is.
func reads(t *testing.T, b []byte) ([]uint8, int, api.Errno) {
	t.Helper()
	room := b[:cap(b)]
	kept := slices.Clone(room)
	weights, used, e := Read(b)
	if !bytes.Equal(room, kept) {
		t.Fatal("Read has changed what it was handed")
	}
	if e != api.OK && (len(weights) != 0 || used != 0) {
		t.Fatalf("Read(% x) = %v, %d beside error %d", b, weights, used, int(e))
	}
	return weights, used, e
}

func wantRead(t *testing.T, b []byte, want []uint8) {
	t.Helper()
	weights, used, e := reads(t, b)
	if e != api.OK || used != len(b) || !bytes.Equal(weights, want) {
		t.Errorf("Read(% x) = %v, %d, %d; want %v", b, weights, used, int(e), want)
	}
	for _, behind := range [][]byte{{0}, {0xff}, {1, 2, 3, 4, 5, 6, 7, 8}, bytes.Repeat([]byte{0xff}, 300)} {
		weights, used, e := reads(t, slices.Concat(b, behind))
		if e != api.OK || used != len(b) || !bytes.Equal(weights, want) {
			t.Errorf("Read(% x) with bytes behind it = %v, %d, %d; want %v", b, weights, used, int(e), want)
		}
	}
	for cut := range b {
		if _, _, e := reads(t, b[:cut]); e != api.ErrTruncated {
			t.Errorf("Read(% x), cut to %d: %d", b, cut, int(e))
		}
	}
}

func wantNoRead(t *testing.T, b []byte, want api.Errno) {
	t.Helper()
	if _, _, e := reads(t, b); e != want {
		t.Errorf("Read(% x): %d; want %d", b, int(e), int(want))
	}
}

// P9.1: the chapter's examples, and others of four bits a weight.
func TestReadFours(t *testing.T) {
	wantRead(t, []byte{0x82, 0x11, 0x20}, []uint8{1, 1, 2, 3})
	wantRead(t, []byte{0x80, 0x10}, []uint8{1, 1})
	wantRead(t, []byte{0x81, 0x11}, []uint8{1, 1, 2})
	wantRead(t, []byte{0x81, 0x01}, []uint8{0, 1, 1})
	wantRead(t, []byte{0x81, 0x10}, []uint8{1, 0, 1})
	wantRead(t, []byte{0x83, 0x30, 0x12}, []uint8{3, 0, 1, 2, 1})
	wantRead(t, []byte{0x8a, 0xba, 0x98, 0x76, 0x54, 0x32, 0x10}, []uint8{11, 10, 9, 8, 7, 6, 5, 4, 3, 2, 1, 1})
	wantRead(t, []byte{0x8a, 0x11, 0x23, 0x45, 0x67, 0x89, 0xa0}, []uint8{1, 1, 2, 3, 4, 5, 6, 7, 8, 9, 10, 11})
}

// P9.1: the lower four bits of an odd last byte are not looked at; those of an even one are.
func TestReadLowerFours(t *testing.T) {
	for low := range byte(16) {
		wantRead(t, []byte{0x82, 0x11, 0x20 | low}, []uint8{1, 1, 2, 3})
		wantRead(t, []byte{0x80, 0x10 | low}, []uint8{1, 1})
	}
	wantRead(t, []byte{0x83, 0x11, 0x23}, []uint8{1, 1, 2, 3, 4})
	wantNoRead(t, []byte{0x83, 0x11, 0x2c}, api.ErrMalformed)
}

// P9.1: h of 128, 129 and 255, with just as many bytes as they tell.
func TestReadMostFours(t *testing.T) {
	wantRead(t, slices.Concat([]byte{0xff}, bytes.Repeat([]byte{0x11}, 64)), join(row(128, 1), row(1, 8)))
	wantRead(t, slices.Concat([]byte{0xff}, bytes.Repeat([]byte{0}, 63), []byte{1}), join(row(127, 0), row(2, 1)))
	wantRead(t, slices.Concat([]byte{0xfe}, bytes.Repeat([]byte{0x11}, 64)), row(128, 1))
	for h := 128; h < 256; h++ {
		// All but one of the weights told are 0.
		n := h - 127
		b := make([]byte, 1+(n+1)/2)
		b[0] = byte(h)
		b[1+n/3/2] = 0x10
		if n/3%2 == 1 {
			b[1+n/3/2] = 0x01
		}
		want := append(make([]uint8, n), 1)
		want[n/3] = 1
		wantRead(t, b, want)
	}
}

// P9.1: what four bits a weight may tell that is no code.
func TestReadRefusesFours(t *testing.T) {
	wantNoRead(t, nil, api.ErrTruncated)
	wantNoRead(t, []byte{}, api.ErrTruncated)
	wantNoRead(t, []byte{0x82, 0x11}, api.ErrTruncated)
	for name, b := range map[string][]byte{
		"sum 0":                 {0x81, 0x00},
		"sum 0, the low bits":   {0x80, 0x01},
		"weight 12":             {0x81, 0x1c},
		"weight 15":             {0x81, 0xf1},
		"wanting 3":             {0x82, 0x31, 0x00},
		"wanting 3, of 1 and 4": {0x81, 0x13},
		"no weight of 1":        {0x81, 0x22},
		"one weight of 1":       {0x80, 0x20},
		"the last alone is 1":   {0x83, 0x22, 0x32},
		"2^12":                  {0x8b, 0xba, 0x98, 0x76, 0x54, 0x32, 0x11},
		"2^12, a last of 12":    {0x8b, 0x11, 0x23, 0x45, 0x67, 0x89, 0xab},
		"2^17":                  slices.Concat([]byte{0xff}, bytes.Repeat([]byte{0xbb}, 62), []byte{0xb1, 0x10}),
	} {
		if _, _, e := reads(t, b); e != api.ErrMalformed {
			t.Errorf("%s: %d", name, int(e))
		}
		if _, _, e := readModel(b); e != api.ErrMalformed {
			t.Errorf("%s, of the model: %d", name, int(e))
		}
	}
	// Too short, and malformed as far as it goes.
	wantNoRead(t, []byte{0x82, 0xff}, api.ErrTruncated)
	wantNoRead(t, []byte{0xff, 0xcc, 0xcc}, api.ErrTruncated)
	wantNoRead(t, []byte{0x05, 0xff, 0xff, 0xff, 0x00}, api.ErrTruncated)
	wantNoRead(t, []byte{0x01}, api.ErrTruncated)
}

// evenTable is the description of 0 16 16, log 5, reckoned by hand: each state has one bit. Of weight 1 are the states
// 0 1 2 5 6 10 11 14 15 19 20 23 24 25 28 29, of weight 2 the others, each row with the Bases 0, 2 .. 30.
func evenTable() []byte {
	return []byte{0x10, 0x88, 0x1f}
}

func TestEvenTable(t *testing.T) {
	b, e := states.Write([]int16{0, 16, 16}, 5)
	if e != api.OK || !bytes.Equal(b, evenTable()) {
		t.Fatalf("% x, %d", b, int(e))
	}
}

// byEven gives a description by the table above and a tail of these signs.
func byEven(s string) []byte {
	b := slices.Concat([]byte{0}, evenTable(), tailOf(s))
	b[0] = byte(len(b) - 1)
	return b
}

// P9.1: weights told by states, reckoned by hand.
func TestReadByStates(t *testing.T) {
	// First state 1 (weight 1), second state 0 (weight 1); from state 1 by the bit 1 to 3 (weight 2); then the bits end in the
	// second state's turn.
	wantRead(t, []byte{0x05, 0x10, 0x88, 0x1f, 0x41, 0x08}, []uint8{1, 1, 2, 3})
	wantRead(t, byEven("1"+"00000"+"10000"), []uint8{1, 1, 2, 3})
	// The first two states alone: the bits end in the first state's turn.
	wantRead(t, byEven("10000"+"00000"), []uint8{1, 1, 2})
	wantRead(t, byEven("11000"+"00000"), []uint8{1, 2, 1})
	// In the first state's second turn: from 0 by 0 to 0, from 1 by 0 to 2, and 0 again.
	wantRead(t, byEven("0"+"0"+"10000"+"00000"), []uint8{1, 1, 1, 1, 3})
	// The second state is 4 (weight 2), and goes by 1 to 3 (weight 2).
	wantRead(t, byEven("1"+"0"+"00100"+"00000"), []uint8{1, 2, 1, 2, 2})
	// It is 3, and goes by 1 to 1 (weight 1): 1 2 1 1, and 3 are wanting.
	wantNoRead(t, byEven("1"+"0"+"11000"+"00000"), api.ErrMalformed)
}

// P9.1: both first states must be there; one bit fewer is malformed, and so is the mark alone.
func TestReadNeedsBothStates(t *testing.T) {
	whole := "10000" + "00000"
	wantRead(t, byEven(whole), []uint8{1, 1, 2})
	for cut := 1; cut <= len(whole); cut++ {
		wantNoRead(t, byEven(whole[cut:]), api.ErrMalformed)
	}
	wantNoRead(t, []byte{4, 0x10, 0x88, 0x1f, 0x01}, api.ErrMalformed)
	// A tail of one byte is never enough: two states have ten bits.
	for x := range 256 {
		wantNoRead(t, []byte{4, 0x10, 0x88, 0x1f, byte(x)}, api.ErrMalformed)
	}
}

// P9.1: no bytes are left for the tail, or they are none.
func TestReadNeedsATail(t *testing.T) {
	wantNoRead(t, []byte{3, 0x10, 0x88, 0x1f}, api.ErrMalformed)
	wantNoRead(t, []byte{3, 0x10, 0x88, 0x1f, 0x41, 0x08}, api.ErrMalformed)
	wantNoRead(t, []byte{4, 0x10, 0x88, 0x1f, 0x00}, api.ErrMalformed)
	wantNoRead(t, []byte{6, 0x10, 0x88, 0x1f, 0x41, 0x08, 0x00}, api.ErrMalformed)
	wantNoRead(t, []byte{5, 0x10, 0x88, 0x1f, 0x41, 0x00, 0x08}, api.ErrMalformed)
}

// P9.1: whatever chapter 7 says of the table, it is malformed; bytes behind the h bytes are none of the table's.
func TestReadRefusesTables(t *testing.T) {
	wantNoRead(t, []byte{0}, api.ErrMalformed)
	wantNoRead(t, []byte{0, 0x10, 0x88, 0x1f, 0x41, 0x08}, api.ErrMalformed)
	for h := 1; h < 4; h++ {
		wantNoRead(t, []byte{byte(h), 0x10, 0x88, 0x1f, 0x41, 0x08}, api.ErrMalformed)
	}
	// A log of 7, and greater ones.
	for log := 7; log <= 12; log++ {
		table, e := states.Write([]int16{1<<log - 1, 1}, log)
		if e != api.OK {
			t.Fatal(e)
		}
		b := slices.Concat([]byte{0}, table, bytes.Repeat([]byte{0x55}, 6))
		b[0] = byte(len(b) - 1)
		wantNoRead(t, b, api.ErrMalformed)
	}
	for x := range 256 {
		if x%16 > 1 {
			wantNoRead(t, []byte{4, byte(x), 0xff, 0xff, 0xff}, api.ErrMalformed)
		}
	}
	// Counts for 12 and more symbols.
	counts := []int16{8, 15, 0, 0, 0, 0, 0, 0, 0, 0, 0, 9}
	told := []uint8{1, 1, 0}
	wantRead(t, byTable(t, told, counts, 5), []uint8{1, 1, 0, 2})
	for _, more := range [][]int16{
		{8, 15, 0, 0, 0, 0, 0, 0, 0, 0, 0, 0, 9},
		{8, 15, 0, 0, 0, 0, 0, 0, 0, 0, 0, 8, 1},
		{8, 15, 0, 0, 0, 0, 0, 0, 0, 0, 0, 0, 0, 0, 0, 9},
	} {
		wantNoRead(t, byTable(t, told, more, 5), api.ErrMalformed)
	}
	// Logs of 5 and 6, with rare symbols.
	wantRead(t, byTable(t, told, []int16{-1, 30, -1}, 5), []uint8{1, 1, 0, 2})
	wantRead(t, byTable(t, told, []int16{-1, 62, -1}, 6), []uint8{1, 1, 0, 2})
}

// byTable gives a description of what is told, with the first states that tell its end.
func byTable(t *testing.T, told []uint8, counts []int16, log int) []byte {
	t.Helper()
	cells, e := states.Table(counts, log)
	if e != api.OK {
		t.Fatalf("%v make no table of %d: %d", counts, log, int(e))
	}
	first := func(w uint8) int {
		return slices.IndexFunc(cells, func(c api.Cell) bool { return c.Symbol == w })
	}
	n := len(told)
	return described(t, told, counts, log, first(told[n-1]), first(told[n-2]))
}

// P9.1: weights told by states make no code.
func TestReadRefusesCodesByStates(t *testing.T) {
	counts := []int16{6, 6, 5, 5, 1, 1, 1, 1, 1, 1, 1, 3}
	for _, x := range []struct {
		told []uint8
		last uint8
	}{
		{[]uint8{1, 1}, 2},
		{[]uint8{0, 1}, 1},
		{[]uint8{1, 0}, 1},
		{[]uint8{0, 0}, 0},
		{[]uint8{2, 2}, 0},
		{[]uint8{2, 3}, 0},
		{[]uint8{3, 2, 2, 2}, 0},
		{[]uint8{1, 3}, 0},
		{[]uint8{0, 2}, 0},
		{[]uint8{1, 1, 2, 3, 4, 5, 6, 7, 8, 9, 10}, 11},
		{[]uint8{11, 10, 9, 8, 7, 6, 5, 4, 3, 2, 1}, 1},
		{[]uint8{1, 1, 2, 3, 4, 5, 6, 7, 8, 9, 10, 11}, 0},
		{[]uint8{11, 11, 1}, 0},
		{[]uint8{11, 11, 11, 11}, 0},
	} {
		b := byTable(t, x.told, counts, 5)
		if x.last == 0 {
			wantNoRead(t, b, api.ErrMalformed)
		} else {
			wantRead(t, b, append(slices.Clone(x.told), x.last))
		}
	}
}

// P9.1: just 255 weights told, and one more.
func TestReadMostTold(t *testing.T) {
	counts := []int16{1, 31}
	wantRead(t, byTable(t, row(255, 1), counts, 5), row(256, 1))
	wantRead(t, byTable(t, row(254, 1), counts, 5), join(row(254, 1), row(1, 2)))
	wantRead(t, byTable(t, join(row(1, 1), row(254, 0)), []int16{31, 1}, 5), join(row(1, 1), row(254, 0), row(1, 1)))
	wantRead(t, byTable(t, join(row(1, 1), row(253, 0)), []int16{31, 1}, 5), join(row(1, 1), row(253, 0), row(1, 1)))
	wantNoRead(t, byTable(t, row(256, 1), counts, 5), api.ErrMalformed)
	wantNoRead(t, byTable(t, row(257, 1), counts, 5), api.ErrMalformed)
	for _, n := range []int{255, 256, 257, 300, 1000} {
		wantNoRead(t, byTable(t, join(row(1, 1), row(n, 0)), []int16{31, 1}, 5), api.ErrMalformed)
	}
}

// P9.1, R1: states without bits tell on for ever; that ends too.
func TestReadEndsWithoutBits(t *testing.T) {
	for _, counts := range [][]int16{{32}, {0, 32}, {0, 0, 32}} {
		table, e := states.Write(counts, 5)
		if e != api.OK {
			t.Fatal(e)
		}
		for _, s := range []string{"0000000000", "1111111111", "0101010101010101"} {
			b := slices.Concat([]byte{0}, table, tailOf(s))
			b[0] = byte(len(b) - 1)
			wantNoRead(t, b, api.ErrMalformed)
		}
	}
}

// P9.1: where all bits are read a state without bits tells on, and only one with bits finds the end.
func TestReadEndsAtBits(t *testing.T) {
	// Of 31 states of weight 1 just the first one has a bit; its state is the last, or the last but one.
	counts := []int16{-1, 31}
	cells, _ := states.Table(counts, 5)
	turns := map[int]int{}
	for ahead, cell := range cells[:31] {
		for last := range 31 {
			b := described(t, []uint8{1, 1}, counts, 5, last, ahead)
			weights, _, e := reads(t, b)
			want, _, we := readModel(b)
			if e != we || !bytes.Equal(weights, want) {
				t.Fatalf("% x: %v, %d; want %v, %d", b, weights, int(e), want, int(we))
			}
			if e == api.OK {
				turns[len(weights)%2]++
			}
			if cell.Bits == 1 && (e != api.OK || !bytes.Equal(weights, []uint8{1, 1, 2})) {
				t.Fatalf("% x: %v, %d", b, weights, int(e))
			}
			if cell.Bits == 0 && cells[last].Bits == 1 && (e != api.OK || len(weights) != 4) {
				t.Fatalf("% x: %v, %d: three told", b, weights, int(e))
			}
		}
	}
	if turns[0] == 0 || turns[1] == 0 {
		t.Errorf("ends in the states' turns: %v", turns)
	}
}

// P9.1: h of 127, and as many bytes.
func TestReadMostBytes(t *testing.T) {
	counts := []int16{4, 4, 56}
	found := 0
	for zeros := range 250 {
		told := join(row(zeros, 0), row(4, 1))
		if len(told) > 255 {
			break
		}
		b := byTable(t, told, counts, 6)
		if len(b) == 128 {
			found++
			wantRead(t, b, append(told, 3))
		}
	}
	if found == 0 {
		t.Error("none of 127 bytes")
	}
	// A hundred bytes and more for the tail, and a state in each of them: too many weights.
	b := slices.Concat([]byte{127}, evenTable(), bytes.Repeat([]byte{0xff}, 124))
	wantNoRead(t, b, api.ErrMalformed)
	wantNoRead(t, b[:127], api.ErrTruncated)
}

// P9.1: whatever table and tail, it is read as the model reads it.
func TestReadAsTheModel(t *testing.T) {
	r := rand.New(rand.NewSource(91))
	seen := map[api.Errno]int{}
	check := func(b []byte) {
		t.Helper()
		weights, used, e := reads(t, b)
		want, wantUsed, we := readModel(b)
		if e != we || used != wantUsed || !bytes.Equal(weights, want) {
			t.Fatalf("Read(% x) = %v, %d, %d; want %v, %d, %d", b, weights, used, int(e), want, wantUsed, int(we))
		}
		seen[e]++
	}
	for range 30000 {
		log := 5 + r.Intn(2)
		counts := someCounts(r, log)
		table, e := states.Write(counts, log)
		if e != api.OK {
			t.Fatal(e)
		}
		rest := make([]byte, r.Intn(8))
		r.Read(rest)
		b := slices.Concat([]byte{0}, table, rest)
		b[0] = byte(len(b) - 1)
		check(b)
	}
	for range 30000 {
		b := make([]byte, r.Intn(12))
		r.Read(b)
		if len(b) > 0 && r.Intn(2) == 0 {
			b[0] = byte(r.Intn(12))
		}
		check(b)
		for k := range b {
			b[k] &= 0x33
		}
		if len(b) > 0 {
			b[0] = byte(127 + r.Intn(2*len(b)))
		}
		check(b)
	}
	for _, e := range []api.Errno{api.OK, api.ErrTruncated, api.ErrMalformed} {
		if seen[e] < 500 {
			t.Errorf("answers: %v", seen)
		}
	}
}

// someCounts makes counts of weights, few of them great ones.
func someCounts(r *rand.Rand, log int) []int16 {
	counts := make([]int16, 2+r.Intn(11))
	rest := 1 << log
	for k := range counts {
		counts[k] = int16(r.Intn(3) - 1)
		if counts[k] != 0 {
			rest--
		}
	}
	for rest > 0 {
		k := r.Intn(1 + r.Intn(len(counts)))
		some := 1 + r.Intn(rest)
		rest -= some
		if counts[k] < 0 {
			counts[k] = 1
		}
		counts[k] += int16(some)
	}
	for counts[len(counts)-1] == 0 {
		counts = counts[:len(counts)-1]
	}
	return counts
}

// R3: what is told is new memory.
func TestReadGivesNewMemory(t *testing.T) {
	for _, b := range [][]byte{{0x82, 0x11, 0x20}, byEven("1" + "00000" + "10000")} {
		one, _, _ := Read(b)
		two, _, _ := Read(b)
		clear(one[:cap(one)])
		clear(b)
		if !bytes.Equal(two, []uint8{1, 1, 2, 3}) {
			t.Errorf("%v", two)
		}
	}
}
