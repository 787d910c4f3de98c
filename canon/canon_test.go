package canon

import (
	"math"
	"math/big"
	"math/rand"
	"slices"
	"strconv"
	"strings"
	"testing"

	"baler/api"
	"baler/bits"
)

// isCode tells by the chapter's words alone, in fractions, if lengths make a code.
func isCode(lengths []uint8) bool {
	if len(lengths) > 1024 {
		return false
	}
	sum, used := new(big.Rat), 0
	for _, l := range lengths {
		if l > 15 {
			return false
		}
		if l > 0 {
			used++
			sum.Add(sum, big.NewRat(1, 1<<l))
		}
	}
	return used >= 2 && sum.Cmp(big.NewRat(1, 1)) == 0
}

// spell gives each symbol's word as a row of digits 0 and 1, by the chapter's words alone; an empty one where it has none.
func spell(lengths []uint8) []string {
	out := make([]string, len(lengths))
	number, before := 0, 0
	for l := 1; l <= 15; l++ {
		for symbol, x := range lengths {
			if int(x) != l {
				continue
			}
			if before > 0 {
				number++
				for range l - before {
					number *= 2
				}
			}
			before = l
			row := strconv.FormatInt(int64(number), 2)
			out[symbol] = strings.Repeat("0", l-len(row)) + row
		}
	}
	return out
}

// packed gives the bytes of a row of digits, the first in the lowest bit of the first byte.
func packed(row string) []byte {
	out := make([]byte, (len(row)+7)/8)
	for i, d := range row {
		if d == '1' {
			out[i/8] += 1 << (i % 8)
		}
	}
	return out
}

// readerOf gives a reader that has just the digits of row ahead of it: they stand behind bits that are read already.
func readerOf(t *testing.T, row string) *bits.Reader {
	t.Helper()
	skip := -len(row) & 7
	r := bits.New(packed(strings.Repeat("1", skip) + row))
	if _, e := r.Bits(skip); e != api.OK || r.Left() != len(row) {
		t.Fatal(e, r.Left())
	}
	return r
}

// randomCode gives lengths that make a code of n words, scattered among symbols.
func randomCode(rng *rand.Rand, n, symbols int) []uint8 {
	leaves := []uint8{1, 1}
	for len(leaves) < n {
		k := rng.Intn(len(leaves))
		if rng.Intn(3) == 0 {
			k = len(leaves) - 1
		}
		if leaves[k] == 15 {
			continue
		}
		leaves[k]++
		leaves = append(leaves, leaves[k])
	}
	out := make([]uint8, symbols)
	for i, k := range rng.Perm(symbols)[:n] {
		out[k] = leaves[i]
	}
	return out
}

func alike(n int, length uint8) []uint8 {
	return slices.Repeat([]uint8{length}, n)
}

// ladder is 1 2 3 .. 15 and 15 once more: words of each length.
func ladder() []uint8 {
	return []uint8{1, 2, 3, 4, 5, 6, 7, 8, 9, 10, 11, 12, 13, 14, 15, 15}
}

// noCodes are lists that make no code, one for each reason and each edge.
func noCodes() map[string][]uint8 {
	return map[string][]uint8{
		"nil":                 nil,
		"empty":               {},
		"zeros":               {0, 0, 0},
		"one":                 {1},
		"one among zeros":     {0, 0, 1, 0},
		"one of 15":           {15},
		"half":                {1, 2},
		"too much":            {1, 1, 1},
		"far too much":        alike(1024, 1),
		"just below":          ladder()[:15],
		"just above":          append(ladder(), 15),
		"just above, ahead":   append([]uint8{15}, ladder()...),
		"full, and twice":     {1, 1, 1, 1},
		"16":                  {1, 2, 16, 16, 16, 16},
		"16 alone":            {16},
		"16 would fill it":    append(ladder()[:15], 16, 16),
		"16 behind a code":    {1, 1, 16},
		"17 behind a code":    {1, 1, 17},
		"32 behind a code":    {1, 1, 32},
		"64 behind a code":    {1, 1, 64},
		"128 behind a code":   {1, 1, 128},
		"255 behind a code":   {1, 1, 255},
		"255 ahead of a code": {255, 1, 1},
		"241 twice":           {241, 241},
		"1025, all 10":        alike(1025, 10),
		"1025, a code and 0":  append(alike(1024, 10), 0),
		"1025, 0 and a code":  append([]uint8{0}, alike(1024, 10)...),
		"1025, two and zeros": append([]uint8{1, 1}, make([]uint8, 1023)...),
		"1025 zeros":          make([]uint8, 1025),
		"2048 of 11":          alike(2048, 11),
		"1023 of 10":          alike(1023, 10),
		"32768 of 15":         alike(1<<15, 15),
		"65536 of 16":         alike(1<<16, 16),
	}
}

// codes are lists that make a code, the edges among them.
func codes() map[string][]uint8 {
	rng := rand.New(rand.NewSource(5))
	return map[string][]uint8{
		"example":           {2, 1, 3, 3},
		"two":               {1, 1},
		"two among zeros":   {0, 1, 0, 0, 1, 0},
		"zeros at the ends": {0, 0, 2, 2, 0, 1, 0, 0},
		"ladder":            ladder(),
		"ladder down":       {15, 15, 14, 13, 12, 11, 10, 9, 8, 7, 6, 5, 4, 3, 2, 1},
		"no shorter than 4": alike(16, 4),
		"1 and 5":           append(alike(16, 5), 1),
		"gap of lengths":    append([]uint8{0, 1, 0}, alike(512, 10)...),
		"1024":              alike(1024, 10),
		"1024, most 0":      append(append([]uint8{1}, make([]uint8, 1022)...), 1),
		"1024, up to 15":    randomCode(rng, 1024, 1024),
		"700 of 1024":       randomCode(rng, 700, 1024),
		"256":               randomCode(rng, 200, 256),
		"18":                randomCode(rng, 9, 18),
	}
}

func sameErr(t *testing.T, what string, got, want api.Errno) {
	t.Helper()
	if got != want {
		t.Errorf("%s: error %d; want %d", what, int(got), int(want))
	}
}

func TestExamples(t *testing.T) {
	if got, e := Codes([]uint8{2, 1, 3, 3}); e != api.OK || !slices.Equal(got, []uint16{2, 0, 6, 7}) {
		t.Error(got, e)
	}
	for _, x := range [][]uint8{{1, 1, 1}, {1}, {1, 2}} {
		if got, e := Codes(x); e != api.ErrCode || len(got) != 0 {
			t.Error(x, got, e)
		}
	}
	if got, e := Limit([]uint32{5, 1, 1, 1}, 15); e != api.OK || sum([]uint32{5, 1, 1, 1}, got) != 13 {
		t.Error(got, e)
	}
	if got, e := Limit([]uint32{8, 4, 2, 1, 1}, 3); e != api.OK || !slices.Equal(got, []uint8{1, 3, 3, 3, 3}) {
		t.Error(got, e)
	}
	if got, e := Limit([]uint32{1, 1, 1}, 1); e != api.ErrArg || len(got) != 0 {
		t.Error(got, e)
	}
	if got, e := Limit([]uint32{7}, 4); e != api.ErrArg || len(got) != 0 {
		t.Error(got, e)
	}
}

// P5.1: which words there are.
func TestCodesGivesTheWords(t *testing.T) {
	for name, lengths := range codes() {
		if !isCode(lengths) {
			t.Fatalf("%s is no code", name)
		}
		got, e := Codes(lengths)
		if e != api.OK || len(got) != len(lengths) {
			t.Fatalf("%s: %d words, error %d", name, len(got), int(e))
		}
		for symbol, row := range spell(lengths) {
			want, _ := strconv.ParseUint("0"+row, 2, 16)
			if uint64(got[symbol]) != want {
				t.Fatalf("%s: symbol %d: %d; want %d", name, symbol, got[symbol], want)
			}
		}
	}
	if got, _ := Codes(ladder()); got[15] != 1<<15-1 || got[14] != 1<<15-2 {
		t.Error("words of 15 bits:", got)
	}
}

// P5.1, R10: which lengths make none.
func TestCodesRefusesWhatIsNoCode(t *testing.T) {
	for name, lengths := range noCodes() {
		if isCode(lengths) {
			t.Fatalf("%s is a code", name)
		}
		got, e := Codes(lengths)
		sameErr(t, name, e, api.ErrCode)
		if len(got) != 0 {
			t.Errorf("%s: words beside an error: %d", name, len(got))
		}
	}
}

// P5.1: any lists, held against the chapter's words; codes of which one length is changed among them.
func TestCodesOfAnyLists(t *testing.T) {
	rng := rand.New(rand.NewSource(51))
	taken := 0
	for range 20000 {
		lengths := make([]uint8, rng.Intn(9))
		for i := range lengths {
			lengths[i] = uint8(rng.Intn(5))
		}
		if rng.Intn(4) == 0 {
			n := 2 + rng.Intn(30)
			lengths = randomCode(rng, n, n+rng.Intn(5))
			lengths[rng.Intn(len(lengths))] = uint8(rng.Intn(18))
		}
		want := api.ErrCode
		if isCode(lengths) {
			want = api.OK
			taken++
		}
		if _, e := Codes(lengths); e != want {
			t.Fatalf("Codes(%v): error %d; want %d", lengths, int(e), int(want))
		}
	}
	if taken < 100 {
		t.Fatal("too few codes among the lists:", taken)
	}
}

// P5.3
func TestReadFindsEachWord(t *testing.T) {
	for name, lengths := range codes() {
		for symbol, row := range spell(lengths) {
			if row == "" {
				continue
			}
			for _, behind := range []string{"", "0", "1", "0110", strings.Repeat("1", 40), strings.Repeat("0", 41)} {
				r := readerOf(t, row+behind)
				got, e := Read(r, lengths)
				if got != symbol || e != api.OK || r.Left() != len(behind) {
					t.Fatalf("%s: %s and %q: %d, error %d, left %d; want %d", name, row, behind, got, int(e), r.Left(), symbol)
				}
			}
		}
	}
}

// P5.3: each beginning of a word that is not the whole of it ends too early.
func TestReadIsTruncatedWithinAWord(t *testing.T) {
	for name, lengths := range codes() {
		for _, row := range spell(lengths) {
			for n := range len(row) {
				r := readerOf(t, row[:n])
				got, e := Read(r, lengths)
				if got != 0 || e != api.ErrTruncated {
					t.Fatalf("%s: %s of %s: %d, error %d", name, row[:n], row, got, int(e))
				}
				if left := r.Left(); left != 0 && left != n {
					t.Fatalf("%s: the reader stands within the word: %d left of %d", name, left, n)
				}
			}
		}
	}
	sameErr(t, "an empty reader", second(Read(&bits.Reader{}, ladder())), api.ErrTruncated)
}

func second(_ int, e api.Errno) api.Errno { return e }

// P5.3, R4, R5: what is no code is refused ahead of what the reader has, and it stays where it is.
func TestReadRefusesWhatIsNoCode(t *testing.T) {
	for name, lengths := range noCodes() {
		for _, row := range []string{"", "0", "1", strings.Repeat("01", 30)} {
			r := readerOf(t, row)
			got, e := Read(r, lengths)
			sameErr(t, name, e, api.ErrCode)
			if got != 0 || r.Left() != len(row) {
				t.Errorf("%s: %d, left %d of %d", name, got, r.Left(), len(row))
			}
		}
	}
}

// P5.3, P5.4, R1: ErrNil comes first, whatever the lengths are.
func TestNilReaderAndWriter(t *testing.T) {
	lists := noCodes()
	lists["a code"] = ladder()
	for name, lengths := range lists {
		got, e := Read(nil, lengths)
		sameErr(t, name, e, api.ErrNil)
		if got != 0 {
			t.Error(name, got)
		}
		for _, symbol := range []int{0, -1, 99, math.MinInt, math.MaxInt} {
			sameErr(t, name, Write(nil, lengths, symbol), api.ErrNil)
		}
	}
}

// P5.4
func TestWritePutsTheWord(t *testing.T) {
	for name, lengths := range codes() {
		for symbol, row := range spell(lengths) {
			if row == "" {
				continue
			}
			for _, ahead := range []string{"", "1", "0101101"} {
				w := &bits.Writer{}
				for _, d := range ahead {
					w.Put(uint64(d-'0'), 1)
				}
				sameErr(t, name, Write(w, lengths, symbol), api.OK)
				// A mark tells where the word ended.
				w.Put(1, 1)
				if got, want := w.Bytes(), packed(ahead+row+"1"); !slices.Equal(got, want) {
					t.Fatalf("%s: symbol %d behind %q: % x; want % x", name, symbol, ahead, got, want)
				}
			}
		}
	}
}

// P5.4, R4, R5: what is refused puts nothing; no code is told ahead of no word.
func TestWriteRefuses(t *testing.T) {
	w := &bits.Writer{}
	w.Put(1, 3)
	for name, lengths := range noCodes() {
		for _, symbol := range []int{0, 1, len(lengths) - 1, len(lengths), -1, math.MinInt, math.MaxInt} {
			sameErr(t, name, Write(w, lengths, symbol), api.ErrCode)
		}
	}
	for name, lengths := range codes() {
		for _, symbol := range []int{-1, -2, len(lengths), len(lengths) + 1, 1 << 20, math.MinInt, math.MinInt + 1, math.MaxInt} {
			sameErr(t, name, Write(w, lengths, symbol), api.ErrArg)
		}
		for symbol, l := range lengths {
			if l == 0 {
				sameErr(t, name, Write(w, lengths, symbol), api.ErrArg)
			}
		}
	}
	w.Put(1, 5)
	if got := w.Bytes(); !slices.Equal(got, []byte{0x09}) {
		t.Errorf("something was put: % x", got)
	}
}

// P5.5: no word begins another one's, and every row of 15 bits begins with just one, which is the one that is read.
func TestEachRowBeginsWithOneWord(t *testing.T) {
	for name, lengths := range codes() {
		words, _ := Codes(lengths)
		owner := make([]int, 1<<15)
		for symbol, l := range lengths {
			if l == 0 {
				continue
			}
			if words[symbol]>>l != 0 {
				t.Fatalf("%s: the word of %d has more than %d bits", name, symbol, l)
			}
			first := int(words[symbol]) << (15 - l)
			for k := range 1 << (15 - l) {
				if owner[first+k] != 0 {
					t.Fatalf("%s: %015b begins with two words", name, first+k)
				}
				owner[first+k] = symbol + 1
			}
		}
		for row, symbol := range owner {
			if symbol == 0 {
				t.Fatalf("%s: %015b begins with none", name, row)
			}
			if row%7 != 0 {
				continue
			}
			digits := strconv.FormatInt(int64(1<<15+row), 2)[1:]
			if got, e := Read(readerOf(t, digits), lengths); got != symbol-1 || e != api.OK {
				t.Fatalf("%s: %s: %d, error %d; want %d", name, digits, got, int(e), symbol-1)
			}
		}
	}
}

// P5.5: what is written is read, several words one behind the other, by several codes in one row too.
func TestWhatIsWrittenIsRead(t *testing.T) {
	rng := rand.New(rand.NewSource(55))
	type step struct {
		lengths []uint8
		symbol  int
	}
	for range 300 {
		var steps []step
		w, row := &bits.Writer{}, ""
		for range rng.Intn(40) {
			n := 2 + rng.Intn(60)
			lengths := randomCode(rng, n, n+rng.Intn(8))
			symbol := rng.Intn(len(lengths))
			if lengths[symbol] == 0 {
				continue
			}
			sameErr(t, "Write", Write(w, lengths, symbol), api.OK)
			row += spell(lengths)[symbol]
			steps = append(steps, step{lengths, symbol})
		}
		if got := w.Bytes(); !slices.Equal(got, packed(row)) {
			t.Fatalf("% x; want %s", got, row)
		}
		r := bits.New(w.Bytes())
		for _, s := range steps {
			if got, e := Read(r, s.lengths); got != s.symbol || e != api.OK {
				t.Fatalf("%v: %d, error %d; want %d", s.lengths, got, int(e), s.symbol)
			}
		}
		if r.Left() != 8*len(w.Bytes())-len(row) {
			t.Fatal("the reader went on too far:", r.Left())
		}
	}
}

// R3: the lists that are handed in stay as they were, with the room behind their ends; an answer is new memory.
func TestListsAreNeitherChangedNorShared(t *testing.T) {
	room := []uint8{3, 3, 2, 1, 77, 88}
	lengths := room[:4]
	words, _ := Codes(lengths)
	for i := range words {
		words[i] = 9999
	}
	_ = append(words, 9999)
	w := &bits.Writer{}
	Write(w, lengths, 1)
	Read(bits.New(w.Bytes()), lengths)
	if !slices.Equal(room, []uint8{3, 3, 2, 1, 77, 88}) {
		t.Error("lengths:", room)
	}
	if again, _ := Codes(lengths); !slices.Equal(again, []uint16{6, 7, 2, 0}) {
		t.Error("words:", again)
	}
	counts := []uint32{9, 1, 5, 0, 3, 70, 80}
	made, _ := Limit(counts[:5], 3)
	for i := range made {
		made[i] = 99
	}
	if !slices.Equal(counts, []uint32{9, 1, 5, 0, 3, 70, 80}) {
		t.Error("counts:", counts)
	}
	if again, _ := Limit(counts[:5], 3); !isCode(again) || sum(counts, again) != 31 {
		t.Error("lengths made:", again)
	}
}
