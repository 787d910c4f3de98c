package canon

import (
	"container/heap"
	"math"
	"math/rand"
	"slices"
	"testing"

	"baler/api"
)

func sum(counts []uint32, lengths []uint8) uint64 {
	var n uint64
	for i, l := range lengths {
		n += uint64(counts[i]) * uint64(l)
	}
	return n
}

// limit asks for lengths and sees that they are such as P5.2 tells, but for their sum, which it gives.
func limit(t *testing.T, counts []uint32, most int) uint64 {
	t.Helper()
	lengths, e := Limit(counts, most)
	if e != api.OK || len(lengths) != len(counts) {
		t.Fatalf("Limit(%v, %d): %d lengths, error %d", counts, most, len(lengths), int(e))
	}
	if !isCode(lengths) {
		t.Fatalf("Limit(%v, %d) = %v: no code", counts, most, lengths)
	}
	for i, l := range lengths {
		if int(l) > most || (l == 0) != (counts[i] == 0) {
			t.Fatalf("Limit(%v, %d) = %v: length %d at %d", counts, most, lengths, l, i)
		}
	}
	return sum(counts, lengths)
}

// leastOfAll tries out all lengths within most, one by one.
func leastOfAll(counts []uint32, most int) uint64 {
	best := uint64(math.MaxUint64)
	lengths := make([]uint8, len(counts))
	var try func(i int)
	try = func(i int) {
		if i == len(counts) {
			if isCode(lengths) {
				best = min(best, sum(counts, lengths))
			}
			return
		}
		if counts[i] == 0 {
			try(i + 1)
			return
		}
		for l := 1; l <= most; l++ {
			lengths[i] = uint8(l)
			try(i + 1)
		}
	}
	try(0)
	return best
}

// leastByLevels finds the least sum by going down a tree, level by level: the greatest counts get their words first.
func leastByLevels(counts []uint32, most int) uint64 {
	var falling []uint32
	for _, c := range counts {
		if c > 0 {
			falling = append(falling, c)
		}
	}
	slices.Sort(falling)
	slices.Reverse(falling)
	n := len(falling)
	rest := make([]uint64, n+1)
	for i := n - 1; i >= 0; i-- {
		rest[i] = rest[i+1] + uint64(falling[i])
	}
	type state struct{ level, placed, open int }
	const none = math.MaxUint64 / 4
	known := map[state]uint64{}
	var least func(s state) uint64
	least = func(s state) uint64 {
		if s.placed == n && s.open == 0 {
			return 0
		}
		if s.open > n-s.placed || s.level > most {
			return none
		}
		if x, ok := known[s]; ok {
			return x
		}
		best := uint64(none)
		for k := range s.open + 1 {
			if k == s.open && s.placed+k < n {
				break
			}
			deeper := state{s.level + 1, s.placed + k, 2 * (s.open - k)}
			best = min(best, rest[s.placed+k]+least(deeper))
		}
		known[s] = best
		return best
	}
	return rest[0] + least(state{1, 0, 2})
}

type weightHeap []uint64

func (h weightHeap) Len() int           { return len(h) }
func (h weightHeap) Less(i, j int) bool { return h[i] < h[j] }
func (h weightHeap) Swap(i, j int)      { h[i], h[j] = h[j], h[i] }
func (h *weightHeap) Push(x any)        { *h = append(*h, x.(uint64)) }
func (h *weightHeap) Pop() any {
	last := len(*h) - 1
	x := (*h)[last]
	*h = (*h)[:last]
	return x
}

// leastWithoutBound finds the least sum of lengths that have no bound: below it none can be.
func leastWithoutBound(counts []uint32) uint64 {
	h := &weightHeap{}
	for _, c := range counts {
		if c > 0 {
			heap.Push(h, uint64(c))
		}
	}
	var total uint64
	for h.Len() > 1 {
		x := heap.Pop(h).(uint64) + heap.Pop(h).(uint64)
		total += x
		heap.Push(h, x)
	}
	return total
}

func same(n int, count uint32) []uint32 {
	return slices.Repeat([]uint32{count}, n)
}

// growing gives n counts that grow like 1 1 2 3 5 8.
func growing(n int) []uint32 {
	out := same(n, 1)
	for i := 2; i < n; i++ {
		out[i] = out[i-1] + out[i-2]
	}
	return out
}

// P5.2, P5.6: few counts, held against all lengths there are.
func TestLimitAgainstAllLengths(t *testing.T) {
	rng := rand.New(rand.NewSource(56))
	lists := [][]uint32{{1, 1}, {0, 1, 0, 1, 0}, {1, 2, 4, 8, 16}, {16, 8, 4, 2, 1}, {1, 1, 2, 3, 5}, {5, 1, 1, 1}, {8, 4, 2, 1, 1}, same(6, 7), same(5, math.MaxUint32),
		{math.MaxUint32, 1, 1, 1, 1, 1}, {math.MaxUint32, math.MaxUint32, math.MaxUint32, 1, 1}, {1 << 31, 1 << 31, 1 << 30, 1, 0, 1}}
	for range 150 {
		counts := make([]uint32, 2+rng.Intn(5))
		for i := range counts {
			counts[i] = uint32(rng.Intn(1 << (1 + rng.Intn(8))))
		}
		lists = append(lists, counts)
	}
	for _, counts := range lists {
		used := len(counts)
		for _, c := range counts {
			if c == 0 {
				used--
			}
		}
		for most := 1; most <= 5; most++ {
			if used < 2 || used > 1<<most {
				continue
			}
			if got, want := limit(t, counts, most), leastOfAll(counts, most); got != want {
				t.Fatalf("Limit(%v, %d): %d; the least is %d", counts, most, got, want)
			}
		}
	}
}

// P5.2, P5.6: more counts, each bound, held against another way to find the least sum.
func TestLimitAgainstLevels(t *testing.T) {
	rng := rand.New(rand.NewSource(57))
	lists := [][]uint32{growing(17), growing(24), growing(40), same(33, 5), same(64, math.MaxUint32), same(63, 1)}
	for range 60 {
		counts := make([]uint32, 2+rng.Intn(40))
		for i := range counts {
			counts[i] = uint32(rng.Uint64() >> (32 + rng.Intn(32)))
		}
		counts[0], counts[len(counts)-1] = 1, math.MaxUint32
		lists = append(lists, counts)
	}
	for _, counts := range lists {
		for most := 6; most <= 15; most++ {
			if got, want := limit(t, counts, most), leastByLevels(counts, most); got != want {
				t.Fatalf("Limit(%v, %d): %d; the least is %d", counts, most, got, want)
			}
		}
	}
}

// P5.6: 1024 counts that the bound does not cut come to what they come to without a bound.
func TestLimitOfManyCounts(t *testing.T) {
	rng := rand.New(rand.NewSource(58))
	for _, n := range []int{300, 704, 1023, 1024} {
		counts := make([]uint32, n)
		for i := range counts {
			counts[i] = 1<<17 + uint32(rng.Intn(1<<20))
		}
		if got, want := limit(t, counts, 15), leastWithoutBound(counts); got != want {
			t.Errorf("%d counts: %d; the least is %d", n, got, want)
		}
		for most := 10; most < 15; most++ {
			if wider := limit(t, counts, most+1); limit(t, counts, most) < wider {
				t.Errorf("%d counts: less within %d than within %d", n, most, most+1)
			}
		}
	}
	for _, count := range []uint32{1, 1 << 31, math.MaxUint32} {
		for most := 10; most <= 15; most++ {
			if got, want := limit(t, same(1024, count), most), 1024*10*uint64(count); got != want {
				t.Errorf("1024 times %d, within %d: %d; the least is %d", count, most, got, want)
			}
		}
	}
}

// P5.2: counts that want words of more bits than most are cut, and only these.
func TestLimitCutsLongWords(t *testing.T) {
	for n := 3; n <= 40; n++ {
		counts := growing(n)
		least := leastWithoutBound(counts)
		for most := 6; most <= 15; most++ {
			got := limit(t, counts, most)
			if n <= most+1 && got != least {
				t.Errorf("%d counts within %d: %d; the least is %d", n, most, got, least)
			}
			if n > most+1 && got <= least {
				t.Errorf("%d counts within %d: %d can't be: without a bound it is %d", n, most, got, least)
			}
		}
	}
}

// P5.2: as many words as there are, and one more.
func TestLimitFillsEachBound(t *testing.T) {
	for most := 1; most <= 10; most++ {
		full := same(1<<most, 3)
		full[0] = 1000
		if got, want := limit(t, full, most), (1000+3*(uint64(len(full))-1))*uint64(most); got != want {
			t.Errorf("2^%d counts: %d; want %d", most, got, want)
		}
		if most < 10 {
			limit(t, append([]uint32{0, 0}, append(full, 0)...), most)
			limit(t, append(full, 1), most+1)
			wantNoLengths(t, append(full, 1), most)
			wantNoLengths(t, append([]uint32{1, 0}, full...), most)
		}
	}
	limit(t, []uint32{1, 0, math.MaxUint32}, 1)
	limit(t, []uint32{1, math.MaxUint32}, 15)
}

func wantNoLengths(t *testing.T, counts []uint32, most int) {
	t.Helper()
	got, e := Limit(counts, most)
	if e != api.ErrArg || len(got) != 0 {
		t.Errorf("Limit of %d counts, %d: %v, error %d; want ErrArg", len(counts), most, got, int(e))
	}
}

// P5.2, R1, R10
func TestLimitRefuses(t *testing.T) {
	for _, most := range []int{0, -1, 16, 17, 64, 1 << 32, math.MinInt, math.MinInt + 1, math.MaxInt} {
		wantNoLengths(t, []uint32{1, 1}, most)
		wantNoLengths(t, []uint32{1, 1, 2, 3, 5, 8}, most)
		wantNoLengths(t, nil, most)
		wantNoLengths(t, same(1025, 1), most)
	}
	for most := 1; most <= 15; most++ {
		wantNoLengths(t, nil, most)
		wantNoLengths(t, []uint32{}, most)
		wantNoLengths(t, []uint32{0, 0, 0}, most)
		wantNoLengths(t, []uint32{7}, most)
		wantNoLengths(t, []uint32{0, math.MaxUint32, 0}, most)
		wantNoLengths(t, same(1025, 1), most)
		wantNoLengths(t, same(1025, 0), most)
		wantNoLengths(t, append([]uint32{1, 1}, same(1023, 0)...), most)
		limit(t, append([]uint32{1, 1}, same(1022, 0)...), most)
	}
	wantNoLengths(t, same(1024, 1), 9)
	wantNoLengths(t, same(1<<17, 1), 15)
}
