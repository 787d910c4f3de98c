package states

import (
	"bytes"
	"math"
	"math/rand"
	"slices"
	"strings"
	"testing"

	"baler/api"
)

var (
	wrongLogs    = []int{4, 13, 0, -1, math.MinInt, math.MaxInt, 16, 64}
	wrongSymbols = []int{-1, 256, math.MinInt, math.MaxInt}
)

// times gives n counts that are alike.
func times(n int, c int16) []int16 {
	return slices.Repeat([]int16{c}, n)
}

func checkRead(t *testing.T, b []byte, mostLog, mostSymbol int) api.Errno {
	t.Helper()
	kept := slices.Clone(b)
	counts, log, used, e := Read(b, mostLog, mostSymbol)
	wantCounts, wantLog, wantUsed, wantE := readModel(b, mostLog, mostSymbol)
	if e != wantE || log != wantLog || used != wantUsed || !slices.Equal(counts, wantCounts) {
		t.Fatalf("Read(% x, %d, %d) = %v, %d, %d, %d; want %v, %d, %d, %d", b, mostLog, mostSymbol, counts, log, used, int(e), wantCounts, wantLog, wantUsed, int(wantE))
	}
	if !bytes.Equal(b, kept) {
		t.Fatalf("Read has changed what it was handed")
	}
	return e
}

func checkRefused(t *testing.T, b []byte, mostLog, mostSymbol int, want api.Errno) {
	t.Helper()
	if e := checkRead(t, b, mostLog, mostSymbol); e != want {
		t.Fatalf("Read(% x, %d, %d): %d, want %d", b, mostLog, mostSymbol, int(e), int(want))
	}
}

func written(t *testing.T, counts []int16, log int) []byte {
	t.Helper()
	kept := slices.Clone(counts)
	b, e := Write(counts, log)
	if e != api.OK {
		t.Fatalf("Write(%v, %d): %d", counts, log, int(e))
	}
	if !slices.Equal(counts, kept) {
		t.Fatal("Write has changed what it was handed")
	}
	return b
}

// checkBack holds a table's description against the model, and reads it back, cut and with bytes behind.
func checkBack(t *testing.T, counts []int16, log int) {
	t.Helper()
	b := written(t, counts, log)
	if want := bytesOf(describe(counts, log), "0"); !bytes.Equal(b, want) {
		t.Fatalf("Write(%v, %d) = % x, want % x", counts, log, b, want)
	}
	for _, behind := range [][]byte{nil, {0}, {0xff}, bytes.Repeat([]byte{0xa5}, 700)} {
		got, gotLog, used, e := Read(append(slices.Clone(b), behind...), 12, 255)
		if e != api.OK || gotLog != log || used != len(b) || !slices.Equal(got, counts) {
			t.Fatalf("Read of Write(%v, %d) with %d behind = %v, %d, %d, %d", counts, log, len(behind), got, gotLog, used, int(e))
		}
	}
	for n := range b {
		if _, _, _, e := Read(b[:n], 12, 255); e != api.ErrTruncated {
			t.Fatalf("Read(% x): %d", b[:n], int(e))
		}
	}
	last := len(counts) - 1
	checkRefused(t, b, log, last, api.OK)
	if last < 255 {
		checkRefused(t, b, log, last+1, api.OK)
	}
	if last > 0 {
		checkRefused(t, b, log, last-1, api.ErrMalformed)
	}
	if log > 5 {
		checkRefused(t, b, log-1, 255, api.ErrMalformed)
	}
}

func made(t *testing.T, counts []int16, log int) []api.Cell {
	t.Helper()
	kept := slices.Clone(counts)
	cells, e := Table(counts, log)
	if e != api.OK {
		t.Fatalf("Table(%v, %d): %d", counts, log, int(e))
	}
	if !slices.Equal(counts, kept) {
		t.Fatal("Table has changed what it was handed")
	}
	return cells
}

func checkTable(t *testing.T, counts []int16, log int) {
	t.Helper()
	got, want := made(t, counts, log), tableModel(counts, log)
	for state := range max(len(got), len(want)) {
		if len(got) != len(want) || got[state] != want[state] {
			t.Fatalf("Table(%v, %d): of %d states, %d: %v, want %v", counts, log, len(got), state, got[state], want[state])
		}
	}
}

// edgeTables are tables that lie at the bounds.
func edgeTables() map[string]struct {
	counts []int16
	log    int
} {
	type table = struct {
		counts []int16
		log    int
	}
	zeros := func(n int, counts ...int16) []int16 { return append(times(n, 0), counts...) }
	all := map[string]table{
		"the chapter's":          {[]int16{16, 8, 4, 4}, 5},
		"one symbol, log 5":      {[]int16{32}, 5},
		"one symbol, log 12":     {[]int16{4096}, 12},
		"one symbol, the last":   {zeros(255, 4096), 12},
		"32 of one state":        {times(32, 1), 5},
		"64 of one state":        {times(64, 1), 6},
		"128 of one state":       {times(128, 1), 7},
		"256 of one state":       {times(256, 1), 8},
		"32 of -1":               {times(32, -1), 5},
		"256 of -1":              {times(256, -1), 8},
		"256 of 16":              {times(256, 16), 12},
		"one and -1":             {[]int16{31, -1}, 5},
		"-1 and one":             {[]int16{-1, 31}, 5},
		"all but one -1":         {append(times(255, -1), 4096-255), 12},
		"-1, 0 and 1 by turns":   {slices.Repeat([]int16{-1, 0, 1}, 16), 5},
		"-1 behind zeros":        {zeros(5, append(times(31, -1), 0, -1)...), 5},
		"ends at a byte's end":   {[]int16{16, 16}, 5},
		"all but one, then one":  {[]int16{4095, 1}, 12},
		"all but one, then -1":   {[]int16{4095, -1}, 12},
		"two halves":             {[]int16{2048, 2048}, 12},
		"odd ones":               {[]int16{3, 5, 7, 1, 0, 0, 9, -1, -1, 5}, 5},
		"zeros at the beginning": {zeros(3, 64), 6},
	}
	for n := range 24 {
		name := strings.Repeat("0 ", n) + "zeros in the midst"
		all[name] = table{append(append([]int16{1}, times(n, 0)...), 31), 5}
		all["rest "+name] = table{append(append([]int16{-1}, times(n, 0)...), 1, 0, 126), 7}
	}
	return all
}

// P7.1, P7.2: the chapter's examples.
func TestExamplesOfDescriptions(t *testing.T) {
	b := written(t, []int16{32}, 5)
	if !bytes.Equal(b, []byte{0xf0, 0x03}) {
		t.Errorf("Write(32, 5) = % x", b)
	}
	counts, log, used, e := Read([]byte{0xf0, 0x03}, 12, 255)
	if !slices.Equal(counts, []int16{32}) || log != 5 || used != 2 || e != api.OK {
		t.Errorf("Read(f0 03) = %v, %d, %d, %d", counts, log, used, int(e))
	}
}

// P7.1, P7.2, P7.6: tables at the bounds are described as the chapter says and read back.
func TestDescriptionsAtTheBounds(t *testing.T) {
	for name, x := range edgeTables() {
		t.Run(name, func(t *testing.T) { checkBack(t, x.counts, x.log) })
	}
}

// P7.1, P7.2, P7.6: many tables are described as the chapter says and read back.
func TestDescriptionsOfMany(t *testing.T) {
	r := rand.New(rand.NewSource(7))
	for range 1500 {
		log := 5 + r.Intn(8)
		checkBack(t, someCounts(r, log, 1+r.Intn(256)), log)
	}
}

// P7.1, P7.2: every value at every rest, so each side of t and of 2^(m-1) is met.
func TestEachValueAtEachRest(t *testing.T) {
	for log := 5; log <= 7; log++ {
		for ahead := range 1 << log {
			rest := 1<<log - ahead
			for count := -1; count <= rest; count++ {
				var counts []int16
				if ahead > 0 {
					counts = append(counts, int16(ahead))
				}
				counts = append(counts, int16(count))
				if left := rest - max(count, -count); left > 0 {
					counts = append(counts, int16(left))
				}
				b := written(t, counts, log)
				if want := bytesOf(describe(counts, log), "0"); !bytes.Equal(b, want) {
					t.Fatalf("Write(%v, %d) = % x, want % x", counts, log, b, want)
				}
				checkRefused(t, b, 12, 255, api.OK)
			}
		}
	}
}

// P7.1, P7.2: at log 12 the values on both sides of t and of 2^(m-1), by hand: R + 1 = 4097 has 13 bits, t = 4094.
func TestValuesAtTheTurns(t *testing.T) {
	for _, x := range []struct {
		count int16
		signs string
	}{
		{4092, "1110" + "101111111111"},  // v = 4093, below t, in 12 bits
		{4093, "1110" + "0111111111110"}, // v = 4094 = t, in 13 bits
		{4094, "1110" + "1111111111110"}, // v = 4095, just below 2^12
		{4095, "1110" + "0111111111111"}, // v = 4096 = 2^12: 4096 + 4094
		{4096, "1110" + "1111111111111"}, // v = 4097: 4097 + 4094
	} {
		counts := []int16{x.count}
		if rest := 4096 - x.count; rest > 0 {
			counts = append(counts, rest)
		}
		got := signsOf(written(t, counts, 12))
		if !strings.HasPrefix(got, x.signs) {
			t.Errorf("Write(%v): %s, want %s first", counts, got, x.signs)
		}
		checkBack(t, counts, 12)
	}
}

// P7.1: the bits up to the byte's end are not looked at; a description may end just at a byte's end.
func TestBitsUpToTheBytesEnd(t *testing.T) {
	whole, open := 0, 0
	for _, x := range edgeTables() {
		s := describe(x.counts, x.log)
		if len(s)%8 == 0 {
			whole++
		} else {
			open++
		}
		b := bytesOf(s, "1")
		counts, log, used, e := Read(b, 12, 255)
		if !slices.Equal(counts, x.counts) || log != x.log || used != len(b) || e != api.OK {
			t.Errorf("Read(% x) = %v, %d, %d, %d", b, counts, log, used, int(e))
		}
	}
	if whole == 0 || open == 0 {
		t.Errorf("%d end at a byte's end, %d do not", whole, open)
	}
}

// P7.1: any bytes are read as the model reads them.
func TestReadOfAnyBytes(t *testing.T) {
	r := rand.New(rand.NewSource(71))
	seen := map[api.Errno]int{}
	for range 60000 {
		b := make([]byte, r.Intn(40))
		r.Read(b)
		if len(b) > 0 && r.Intn(2) == 0 {
			b[0] &= 0xf7
		}
		seen[checkRead(t, b, 5+r.Intn(8), r.Intn(256))]++
	}
	for _, e := range []api.Errno{api.OK, api.ErrTruncated, api.ErrMalformed} {
		if seen[e] < 100 {
			t.Errorf("%d was met %d times", int(e), seen[e])
		}
	}
}

// P7.1: descriptions with a bit or two turned round, and other bounds.
func TestReadOfTurnedBits(t *testing.T) {
	r := rand.New(rand.NewSource(72))
	for range 20000 {
		log := 5 + r.Intn(8)
		counts := someCounts(r, log, 1+r.Intn(256))
		b := written(t, counts, log)
		for range r.Intn(3) {
			at := r.Intn(len(b) * 8)
			b[at/8] ^= 1 << (at % 8)
		}
		checkRead(t, b, 5+r.Intn(8), max(0, min(255, len(counts)+r.Intn(5)-3)))
	}
}

// P7.1: mostSymbol is held against counts as soon as they are there, ahead of the bits' end.
func TestReadStopsAtMostSymbol(t *testing.T) {
	// The log and one value of 12 bits are just two bytes, four numbers of zeros one more.
	log, zero, one := binary(7, 4), valueSigns(1, 4096), valueSigns(2, 4096)
	for _, x := range []struct {
		signs string
		told  int // how many symbols have their counts where the bits end
	}{
		{log + one, 1},
		{log + zero, 1},
		{log + zero + "11111111", 13},
		{log + zero + "11111101", 12},
		{log + zero + "1111111111111111", 25},
	} {
		b := bytesOf(x.signs, "-")
		for most := range 256 {
			want := api.ErrMalformed
			if most >= x.told {
				want = api.ErrTruncated
			}
			checkRefused(t, b, 12, most, want)
		}
	}
}

// P7.1: a run of zeros at the last bit there is: malformed where the symbols are at their end, truncated else.
func TestZerosAtTheLastBit(t *testing.T) {
	// 4 bits, 5 bits for a count of 0 at rest 32 (v 1 is below t 30), then numbers of zeros: 4 + 5 + 2k is never a byte's end,
	// so one count of 1 (5 bits) goes ahead: 4 + 5 + 5 + 2k.
	head := binary(0, 4) + valueSigns(2, 32) + valueSigns(1, 31)
	if len(head)%2 != 0 {
		t.Fatalf("%d signs", len(head))
	}
	threes := 0
	for s := head; threes < 12; s, threes = s+"11", threes+1 {
		if len(s)%8 != 0 {
			continue
		}
		told := 2 + 3*threes
		checkRefused(t, bytesOf(s, ""), 12, told, api.ErrTruncated)
		checkRefused(t, bytesOf(s, ""), 12, told-1, api.ErrMalformed)
		checkRefused(t, bytesOf(s, ""), 12, told-2, api.ErrMalformed)
	}
}

// P7.1: the log is held against mostLog ahead of all other bits; logs above 12 are none.
func TestReadOfLogs(t *testing.T) {
	for low := range 16 {
		for mostLog := 5; mostLog <= 12; mostLog++ {
			want := api.ErrTruncated
			if low+5 > mostLog {
				want = api.ErrMalformed
			}
			checkRefused(t, []byte{byte(low)}, mostLog, 255, want)
		}
	}
}

// P7.1: which numbers are let in; they are looked at ahead of the bytes.
func TestReadOfWrongNumbers(t *testing.T) {
	good := []byte{0xf0, 0x03}
	for _, b := range [][]byte{nil, {}, good, {0xff}, {0x0f, 0xff, 0xff}} {
		for _, log := range wrongLogs {
			checkRefused(t, b, log, 255, api.ErrArg)
			for _, symbol := range wrongSymbols {
				checkRefused(t, b, log, symbol, api.ErrArg)
			}
		}
		for _, symbol := range wrongSymbols {
			checkRefused(t, b, 12, symbol, api.ErrArg)
		}
	}
	checkRefused(t, good, 5, 0, api.OK)
	checkRefused(t, good, 12, 255, api.OK)
	checkRefused(t, nil, 12, 255, api.ErrTruncated)
	checkRefused(t, []byte{}, 5, 0, api.ErrTruncated)
}

// P7.2, P7.3: counts that make no table.
func TestWrongCounts(t *testing.T) {
	for name, x := range map[string]struct {
		counts []int16
		log    int
	}{
		"the chapter's 31":           {[]int16{31}, 5},
		"the chapter's 32 0":         {[]int16{32, 0}, 5},
		"nil":                        {nil, 5},
		"empty":                      {[]int16{}, 5},
		"one more":                   {[]int16{16, 17}, 5},
		"one less with -1":           {[]int16{30, -1}, 5},
		"one more with -1":           {[]int16{32, -1}, 5},
		"-1 taken off":               {[]int16{33, -1}, 5},
		"all zeros":                  {times(32, 0), 5},
		"below -1":                   {[]int16{-2, 32}, 5},
		"below -1, the sum's own":    {[]int16{-2, 34}, 5},
		"below -1, less":             {[]int16{-2, 30}, 5},
		"the least int16":            {[]int16{math.MinInt16, 32}, 5},
		"the greatest int16":         {[]int16{math.MaxInt16, 32}, 5},
		"all the greatest":           {times(256, math.MaxInt16), 12},
		"wrapping to 32":             {append(times(2, math.MaxInt16), 2, 32), 5},
		"257 counts":                 {append(times(256, 0), 32), 5},
		"257 that come to 512":       {append(times(256, 1), 256), 9},
		"512 of one":                 {times(512, 1), 9},
		"the sum of another log":     {[]int16{32}, 6},
		"the sum of another log, 12": {[]int16{2048}, 12},
		"zeros behind":               {[]int16{16, 16, 0, 0}, 5},
	} {
		if isTable(x.counts, x.log) {
			t.Fatalf("%s: make a table", name)
		}
		if b, e := Write(x.counts, x.log); b != nil || e != api.ErrCounts {
			t.Errorf("%s: Write = % x, %d", name, b, int(e))
		}
		if cells, e := Table(x.counts, x.log); cells != nil || e != api.ErrCounts {
			t.Errorf("%s: Table = %v, %d", name, cells, int(e))
		}
	}
}

// P7.2, P7.3: logs that are none, with counts that come to as many states and with others.
func TestWrongLogs(t *testing.T) {
	for _, log := range wrongLogs {
		lists := [][]int16{nil, {1}, {16}, {32}, {8192}, {4096}, {-1}, {-5}, times(300, 1), {0}}
		for _, counts := range lists {
			if _, e := Write(counts, log); e != api.ErrCounts {
				t.Errorf("Write(%v, %d): %d", counts, log, int(e))
			}
			if _, e := Table(counts, log); e != api.ErrCounts {
				t.Errorf("Table(%v, %d): %d", counts, log, int(e))
			}
		}
	}
}

// P7.2, P7.3: any counts are refused just where they make no table.
func TestAnyCounts(t *testing.T) {
	r := rand.New(rand.NewSource(73))
	seen := map[bool]int{}
	for range 20000 {
		log := 4 + r.Intn(10)
		counts := someCounts(r, min(max(log, 5), 12), 1+r.Intn(256))
		if r.Intn(2) == 0 {
			counts[r.Intn(len(counts))] += int16(r.Intn(5) - 2)
		}
		want := api.ErrCounts
		if isTable(counts, log) {
			want = api.OK
		}
		seen[want == api.OK]++
		if _, e := Write(counts, log); e != want {
			t.Fatalf("Write(%v, %d): %d", counts, log, int(e))
		}
		if _, e := Table(counts, log); e != want {
			t.Fatalf("Table(%v, %d): %d", counts, log, int(e))
		}
	}
	if seen[true] < 1000 || seen[false] < 1000 {
		t.Errorf("%v", seen)
	}
}

// P7.3: the chapter's examples.
func TestExamplesOfTables(t *testing.T) {
	cells := made(t, []int16{16, 8, 4, 4}, 5)
	if len(cells) != 32 {
		t.Fatalf("%d cells", len(cells))
	}
	for _, state := range []int{0, 23, 14} {
		if cells[state].Symbol != 0 {
			t.Errorf("state %d: %v", state, cells[state])
		}
	}
	if cells[0] != (api.Cell{Symbol: 0, Bits: 1, Base: 0}) {
		t.Errorf("state 0: %v", cells[0])
	}
}

// P7.3: a table worked out by hand: counts 29 -1 2, so state 31 is symbol 1's; the others step by 23 modulo 32, over 31.
func TestTableByHand(t *testing.T) {
	cells := made(t, []int16{29, -1, 2}, 5)
	if cells[31] != (api.Cell{Symbol: 1, Bits: 5, Base: 0}) {
		t.Errorf("state 31: %v", cells[31])
	}
	// The steps backwards from 0: 9, 18, 27, ..: the last two that are taken are 18 and 9.
	if cells[9] != (api.Cell{Symbol: 2, Bits: 4, Base: 0}) || cells[18] != (api.Cell{Symbol: 2, Bits: 4, Base: 16}) {
		t.Errorf("states 9, 18: %v %v", cells[9], cells[18])
	}
	if cells[0] != (api.Cell{Symbol: 0, Bits: 1, Base: 26}) || cells[3] != (api.Cell{Symbol: 0, Bits: 0, Base: 0}) {
		t.Errorf("states 0, 3: %v %v", cells[0], cells[3])
	}
}

// P7.3: tables at the bounds and many others, cell by cell.
func TestTablesCellByCell(t *testing.T) {
	for name, x := range edgeTables() {
		t.Run(name, func(t *testing.T) { checkTable(t, x.counts, x.log) })
	}
	r := rand.New(rand.NewSource(74))
	for k := range 160 {
		log := 5 + k%8
		checkTable(t, someCounts(r, log, 1+r.Intn(256)), log)
		checkTable(t, someCounts(r, log, 1+r.Intn(6)), log)
	}
}

// P7.5, P7.6, P7.7: each next state is come to from each symbol, from just one state, and Ahead finds it.
func checkWays(t *testing.T, counts []int16, log int) {
	t.Helper()
	cells := made(t, counts, log)
	for s := range 256 {
		from := make([][]int, len(cells))
		for state, c := range cells {
			if int(c.Symbol) != s {
				continue
			}
			for next := int(c.Base); next < int(c.Base)+1<<c.Bits; next++ {
				if next >= len(cells) {
					t.Fatalf("Table(%v, %d): state %d leads to %d", counts, log, state, next)
				}
				from[next] = append(from[next], state)
			}
		}
		want := 0
		if s < len(counts) && counts[s] != 0 {
			want = 1
		}
		for next, list := range from {
			if len(list) != want {
				t.Fatalf("Table(%v, %d): symbol %d leads to %d from %v", counts, log, s, next, list)
			}
			if want == 0 && next%61 != 0 {
				continue
			}
			state, ok := Ahead(cells, uint8(s), next)
			if ok != (want == 1) || ok && state != list[0] || !ok && state != 0 {
				t.Fatalf("Ahead(%v, %d, %d) = %d, %v, want of %v", counts, s, next, state, ok, list)
			}
		}
		for _, next := range []int{-1, len(cells), math.MinInt, math.MaxInt, -len(cells), 1 << 16} {
			if state, ok := Ahead(cells, uint8(s), next); state != 0 || ok {
				t.Fatalf("Ahead(%v, %d, %d) = %d, %v", counts, s, next, state, ok)
			}
		}
	}
}

// P7.5, P7.6, P7.7.
func TestWaysOfTables(t *testing.T) {
	for name, x := range edgeTables() {
		t.Run(name, func(t *testing.T) {
			if x.log < 9 || len(x.counts) < 3 {
				checkWays(t, x.counts, x.log)
			}
		})
	}
	r := rand.New(rand.NewSource(75))
	for k := range 60 {
		log := 5 + k%5
		checkWays(t, someCounts(r, log, 1+r.Intn(60)), log)
	}
}

// P7.5: cells that no table has: numbers of bits as great as can be, several states that fit, none.
func TestAheadOfOtherCells(t *testing.T) {
	r := rand.New(rand.NewSource(76))
	nexts := []int{0, 1, -1, 2, 65534, 65535, 65536, math.MaxInt, math.MaxInt - 1, math.MinInt, math.MinInt + 1, 1 << 62, 1<<62 - 1, 1<<62 + 70000}
	found := 0
	for range 20000 {
		cells := make([]api.Cell, r.Intn(8))
		for k := range cells {
			cells[k] = api.Cell{Symbol: uint8(r.Intn(2)), Bits: uint8(r.Intn(256)), Base: uint16(r.Intn(65536))}
			if r.Intn(2) == 0 {
				cells[k].Bits = uint8(58 + r.Intn(10))
			}
			if r.Intn(2) == 0 {
				cells[k].Base = uint16(r.Intn(3))
			}
			if r.Intn(4) == 0 {
				cells[k].Bits = uint8(r.Intn(18))
			}
		}
		kept := slices.Clone(cells)
		for _, next := range nexts {
			state, ok := Ahead(cells, 1, next)
			wantState, wantOK := aheadModel(cells, 1, int64(next))
			if state != wantState || ok != wantOK {
				t.Fatalf("Ahead(%v, 1, %d) = %d, %v, want %d, %v", cells, next, state, ok, wantState, wantOK)
			}
			if state > 0 {
				found++
			}
		}
		if !slices.Equal(cells, kept) {
			t.Fatal("Ahead has changed what it was handed")
		}
	}
	if found < 1000 {
		t.Errorf("a state above 0 was found %d times", found)
	}
}

// P7.5: an empty table, and one of a single state without bits.
func TestAheadOfSmallTables(t *testing.T) {
	for _, cells := range [][]api.Cell{nil, {}} {
		if state, ok := Ahead(cells, 0, 0); state != 0 || ok {
			t.Errorf("Ahead of none = %d, %v", state, ok)
		}
	}
	one := []api.Cell{{Symbol: 7}}
	for _, x := range []struct {
		symbol uint8
		next   int
		ok     bool
	}{{7, 0, true}, {7, 1, false}, {7, -1, false}, {6, 0, false}} {
		if state, ok := Ahead(one, x.symbol, x.next); state != 0 || ok != x.ok {
			t.Errorf("Ahead(%d, %d) = %d, %v", x.symbol, x.next, state, ok)
		}
	}
	twice := []api.Cell{{Symbol: 1}, {Symbol: 2, Bits: 3, Base: 8}, {Symbol: 2, Bits: 4, Base: 4}}
	for next, want := range map[int]int{4: 2, 7: 2, 8: 1, 15: 1, 16: 2, 19: 2} {
		if state, ok := Ahead(twice, 2, next); state != want || !ok {
			t.Errorf("Ahead(2, %d) = %d, %v, want %d", next, state, ok, want)
		}
	}
}

// R3: what is told is new memory; writing to it, or to what was handed in, changes no later answer.
func TestAnswersAreNewMemory(t *testing.T) {
	counts := []int16{16, 8, 4, 4}
	b, again := written(t, counts, 5), written(t, counts, 5)
	cells, cellsAgain := made(t, counts, 5), made(t, counts, 5)
	read, _, _, _ := Read(b, 12, 255)
	readAgain, _, _, _ := Read(b, 12, 255)
	for k := range b {
		b[k] = 0xee
	}
	for k := range cells {
		cells[k] = api.Cell{Symbol: 200}
	}
	for k := range read {
		read[k] = 77
	}
	if !slices.Equal(readAgain, counts) || !bytes.Equal(again, written(t, counts, 5)) || !slices.Equal(cellsAgain, tableModel(counts, 5)) {
		t.Error("answers share memory")
	}
	checkTable(t, counts, 5)
	checkBack(t, counts, 5)
}

// R9: the places may be left, and gone over again.
func TestPlacesMayBeLeft(t *testing.T) {
	all := places(32, 30)
	for range 2 {
		n := 0
		for turn, state := range all {
			if turn != n || state >= 30 {
				t.Fatalf("%d: %d", turn, state)
			}
			if n++; n == 7 {
				break
			}
		}
		if n != 7 {
			t.Errorf("left at %d", n)
		}
	}
}
