package states

import (
	"math"
	"math/rand"
	"slices"
	"testing"

	"baler/api"
)

// counted asks for counts and looks if they are what P7.4 promises.
func counted(t *testing.T, freq []uint32, log int) []int16 {
	t.Helper()
	kept := slices.Clone(freq)
	counts, e := Counts(freq, log)
	if e != api.OK {
		t.Fatalf("Counts(%v, %d): %d", freq, log, int(e))
	}
	if !slices.Equal(freq, kept) {
		t.Fatal("Counts has changed what it was handed")
	}
	if !isTable(counts, log) {
		t.Fatalf("Counts(%v, %d) = %v make no table", freq, log, counts)
	}
	for s, f := range freq {
		if s >= len(counts) {
			if f > 0 {
				t.Fatalf("Counts(%v, %d) = %v: none for %d", freq, log, counts, s)
			}
			continue
		}
		if (f > 0) != (counts[s] > 0 || counts[s] == -1) {
			t.Fatalf("Counts(%v, %d) = %v: at %d", freq, log, counts, s)
		}
	}
	if len(counts) > len(freq) {
		t.Fatalf("Counts(%v, %d) = %v", freq, log, counts)
	}
	if _, e := Write(counts, log); e != api.OK {
		t.Fatalf("Write(%v, %d): %d", counts, log, int(e))
	}
	if _, e := Table(counts, log); e != api.OK {
		t.Fatalf("Table(%v, %d): %d", counts, log, int(e))
	}
	return counts
}

func freqs(n int, f uint32) []uint32 {
	return slices.Repeat([]uint32{f}, n)
}

// P7.4: the chapter's examples, and others that need no choice.
func TestExamplesOfCounts(t *testing.T) {
	for _, x := range []struct {
		freq []uint32
		log  int
		want []int16
	}{
		{[]uint32{9}, 5, []int16{32}},
		{[]uint32{1}, 12, []int16{4096}},
		{[]uint32{math.MaxUint32}, 12, []int16{4096}},
		{[]uint32{0, 0, 5}, 6, []int16{0, 0, 64}},
		{[]uint32{5, 0, 0}, 6, []int16{64}},
		{[]uint32{16, 8, 4, 4}, 5, []int16{16, 8, 4, 4}},
		{[]uint32{2, 1, 0, 1, 0, 0}, 7, []int16{64, 32, 0, 32}},
		{[]uint32{math.MaxUint32, math.MaxUint32}, 12, []int16{2048, 2048}},
		{freqs(32, 1), 5, times(32, 1)},
		{freqs(256, math.MaxUint32), 12, times(256, 16)},
		{freqs(256, 1), 8, times(256, 1)},
		{freqs(256, math.MaxUint32), 8, times(256, 1)},
	} {
		if got := counted(t, x.freq, x.log); !slices.Equal(got, x.want) {
			t.Errorf("Counts(%v, %d) = %v, want %v", x.freq, x.log, got, x.want)
		}
	}
}

// P7.4: just 2^log freqs above 0, however unlike they are; and rare ones beside great ones.
func TestCountsAtTheBounds(t *testing.T) {
	for log := 5; log <= 8; log++ {
		freq := freqs(1<<log, 1)
		freq[3] = math.MaxUint32
		for s, c := range counted(t, freq, log) {
			if c != 1 && c != -1 {
				t.Errorf("log %d, symbol %d: %d", log, s, c)
			}
		}
		spaced := make([]uint32, 0, 256)
		for k := range 1 << log {
			if spaced = append(spaced, uint32(k+1)*77); len(spaced)+1<<log-k < 256 {
				spaced = append(spaced, 0)
			}
		}
		counted(t, spaced, log)
	}
	for log := 5; log <= 12; log++ {
		n := min(1<<log, 256) - 1
		counted(t, append(freqs(n, 1), math.MaxUint32), log)
		counted(t, append(freqs(n, math.MaxUint32), 1), log)
		counted(t, append(freqs(n/2, math.MaxUint32), freqs(n/2, 1)...), log)
		counted(t, []uint32{1, math.MaxUint32}, log)
		counted(t, append(freqs(1, 3), freqs(255, 0)...), log)
	}
}

// P7.4: what is refused.
func TestWrongFreqs(t *testing.T) {
	for name, x := range map[string]struct {
		freq []uint32
		log  int
	}{
		"nil":                    {nil, 5},
		"empty":                  {[]uint32{}, 5},
		"all 0":                  {freqs(8, 0), 5},
		"256 zeros":              {freqs(256, 0), 12},
		"257":                    {freqs(257, 1), 12},
		"257, the last ones 0":   {append(freqs(4, 1), freqs(253, 0)...), 12},
		"257 zeros":              {freqs(257, 0), 12},
		"33 of log 5":            {freqs(33, 1), 5},
		"33 of log 5, great":     {freqs(33, math.MaxUint32), 5},
		"65 of log 6":            {freqs(65, 3), 6},
		"129 of log 7":           {freqs(129, 3), 7},
		"33 of log 5, zeros too": {append(append(freqs(20, 1), freqs(9, 0)...), freqs(13, 2)...), 5},
	} {
		if counts, e := Counts(x.freq, x.log); counts != nil || e != api.ErrArg {
			t.Errorf("%s: Counts = %v, %d", name, counts, int(e))
		}
	}
	for _, log := range wrongLogs {
		for _, freq := range [][]uint32{nil, {0}, {1}, {9, 9}, freqs(16, 1), freqs(300, 1)} {
			if counts, e := Counts(freq, log); counts != nil || e != api.ErrArg {
				t.Errorf("Counts(%v, %d) = %v, %d", freq, log, counts, int(e))
			}
		}
	}
}

// bitsOf tells how many bits freq takes by counts, about.
func bitsOf(freq []uint32, counts []int16, log int) float64 {
	sum := 0.0
	for s, f := range freq {
		if f > 0 {
			sum += float64(f) * (float64(log) - math.Log2(math.Abs(float64(counts[s]))))
		}
	}
	return sum
}

// bestBits tells how few bits freq could take: each state behind the first ones goes where it saves most.
func bestBits(freq []uint32, log int) float64 {
	counts := make([]int16, len(freq))
	spare := 1 << log
	saves := make([]float64, len(freq))
	for s, f := range freq {
		if f > 0 {
			counts[s], saves[s] = 1, float64(f)
			spare--
		}
	}
	for range spare {
		best := 0
		for s := range saves {
			if saves[s] > saves[best] {
				best = s
			}
		}
		counts[best]++
		c := float64(counts[best])
		saves[best] = float64(freq[best]) * math.Log2((c+1)/c)
	}
	return bitsOf(freq, counts, log)
}

// someFreqs makes freqs of all sizes, one of them above 0 for certain.
func someFreqs(r *rand.Rand, n int) []uint32 {
	freq := make([]uint32, n)
	for s := range freq {
		switch r.Intn(4) {
		case 0:
		case 1:
			freq[s] = uint32(r.Intn(4))
		case 2:
			freq[s] = uint32(r.Intn(1000))
		default:
			freq[s] = r.Uint32() >> r.Intn(32)
		}
	}
	freq[r.Intn(n)] |= 1
	return freq
}

// P7.4: any freqs get counts that make a table, and these are nearly as short as counts can be.
func TestCountsOfMany(t *testing.T) {
	r := rand.New(rand.NewSource(77))
	for k := range 4000 {
		log := 5 + k%8
		freq := someFreqs(r, 1+r.Intn(min(256, 1<<log)))
		counts := counted(t, freq, log)
		if k >= 400 {
			continue
		}
		if got, best := bitsOf(freq, counts, log), bestBits(freq, log); got > best*1.0001+1 {
			t.Fatalf("Counts(%v, %d) = %v: %.0f bits, the least are %.0f", freq, log, counts, got, best)
		}
	}
}

// P7.4: where a symbol is rarer than one state's part, its count is -1.
func TestRareCounts(t *testing.T) {
	if got := counted(t, []uint32{1, 1000, 40}, 5); !slices.Equal(got, []int16{-1, 30, 1}) {
		t.Errorf("%v", got)
	}
	if got := counted(t, []uint32{1, 31}, 5); !slices.Equal(got, []int16{1, 31}) {
		t.Errorf("%v", got)
	}
}

// R3: what Counts tells is new memory.
func TestCountsAreNewMemory(t *testing.T) {
	freq := []uint32{5, 6, 7}
	first, second := counted(t, freq, 5), counted(t, freq, 5)
	for k := range first {
		first[k] = 99
	}
	if !slices.Equal(second, counted(t, freq, 5)) {
		t.Error("answers share memory")
	}
}
