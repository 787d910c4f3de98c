package lzma2

import (
	"bytes"
	"fmt"
	"math"
	"math/rand"
	"slices"
	"strings"
	"testing"

	"baler/api"
	"baler/lzmaput"
)

// encoded gives what Encode answers, and looks at what is promised of it whatever b is: the bound, how much chunks tell, which of
// them throws the dictionary away, and that b is as it was.
func encoded(t *testing.T, b []byte, from, level int) []byte {
	t.Helper()
	room := b[:cap(b)]
	kept := slices.Clone(room)
	out, e := Encode(b, from, level)
	if e != api.OK {
		t.Fatalf("Encode of %d bytes from %d at level %d: %d", len(b), from, level, int(e))
	}
	if !bytes.Equal(room, kept) {
		t.Fatal("Encode has changed what it was handed")
	}
	n := len(b) - from
	if len(out) > n+n/1000+16 || (len(out) == 0) != (n == 0) {
		t.Fatalf("level %d: %d bytes take %d", level, n, len(out))
	}
	lookAtChunks(t, out, n, from == 0)
	return out
}

// lookAtChunks goes over chunks without an end that tell n bytes.
func lookAtChunks(t *testing.T, b []byte, n int, clearing bool) {
	t.Helper()
	settled := false
	for first := true; len(b) > 0; first = false {
		control := b[0]
		if control == 0 || control > 2 && control < 0x80 || len(b) < headSize(control) {
			t.Fatalf("a chunk of control %02x, %d bytes left", control, len(b))
		}
		if clears := control == 1 || control >= 0xe0; clears != (first && clearing) {
			t.Fatalf("control %02x, the first one: %v", control, first)
		}
		tells := int(b[1])<<8 + int(b[2]) + 1
		has := tells
		if control >= 0x80 {
			tells += int(control&31) << 16
			has = int(b[3])<<8 + int(b[4]) + 1
			settled = settled || control >= 0xc0
			if !settled {
				t.Fatalf("control %02x leans on settings of an Encode ahead", control)
			}
		}
		if tells > 1<<16 || len(b) < headSize(control)+has {
			t.Fatalf("control %02x: %d bytes told by %d, with %d left", control, tells, has, len(b))
		}
		n, b = n-tells, b[headSize(control)+has:]
	}
	if n != 0 {
		t.Fatalf("the chunks tell %d bytes too few", n)
	}
}

// windowOf is the least window by which what is written of n bytes at a level is read.
func windowOf(n, level int) int {
	return max(1, min(n, 1<<(16+2*min(max(level, 0), 3))))
}

// thereAndBack writes b in stretches that end at these places, and reads it by windows as small as may be, and as long as b. It tells
// how many bytes were written.
func thereAndBack(t *testing.T, b []byte, level int, ends ...int) int {
	t.Helper()
	var all []byte
	from := 0
	for _, end := range append(ends, len(b)) {
		all = append(all, encoded(t, b[:end:end], from, level)...)
		from = end
	}
	all = append(all, 0)
	what := fmt.Sprintf("level %d, %d bytes, ends %v", level, len(b), ends)
	least := windowOf(len(b), level)
	wants(t, what, all, least, told(b, len(all)))
	if len(b) > least {
		wants(t, what+", a greater window", all, len(b), told(b, len(all)))
	}
	return len(all) - 1
}

// texts are such as repeat, such as don't, and both in turn, each of n bytes.
func texts(r *rand.Rand, n int) map[string][]byte {
	far := noise(r, n/2+1)
	var both []byte
	for len(both) < n {
		both = append(both, noise(r, 1+r.Intn(1+n/9))...)
		both = append(both, words(r, 1+r.Intn(1+n/7))...)
		if n := r.Intn(1 + n/8); n < len(both) {
			both = append(both, both[:n]...)
		}
	}
	few := make([]byte, n)
	for k := range few {
		few[k] = byte(r.Intn(3))
	}
	return map[string][]byte{
		"one byte":      bytes.Repeat([]byte{byte(n)}, n),
		"zeros":         make([]byte, n),
		"abc":           bytes.Repeat([]byte("abc"), n/3+1)[:n],
		"words":         words(r, n),
		"few bytes":     few,
		"noise":         noise(r, n),
		"noise, twice":  slices.Concat(far, far)[:n],
		"both in turn":  both[:n],
		"all the bytes": slices.Concat(everyByte(), words(r, n), everyByte(), words(r, n))[:n],
	}
}

func everyByte() []byte {
	b := make([]byte, 256)
	for k := range b {
		b[k] = byte(k)
	}
	return b
}

var levels = []int{0, 1, 2, 3}

// The chapter's examples.
func TestEncodeExamples(t *testing.T) {
	for _, level := range []int{3, 0, -1, 4} {
		for _, b := range [][]byte{nil, {}} {
			if out, e := Encode(b, 0, level); len(out) != 0 || e != api.OK {
				t.Errorf("% x, %d", out, int(e))
			}
		}
	}
}

// P16.2, P16.3: texts of all kinds, of lengths about where a chunk ends, at each level.
func TestThereAndBack(t *testing.T) {
	t.Parallel()
	r := rand.New(rand.NewSource(20))
	for _, n := range []int{0, 1, 2, 3, 4, 5, 10, 100, 1000, 65535, 65536, 65537, 1<<17 + 1} {
		for _, b := range texts(r, n) {
			for _, level := range levels {
				thereAndBack(t, b, level)
			}
		}
	}
}

// P16.2: texts of each length up to some hundreds.
func TestShortTexts(t *testing.T) {
	r := rand.New(rand.NewSource(21))
	for n := range 400 {
		for _, b := range texts(r, n) {
			thereAndBack(t, b, n%4)
		}
	}
}

// P16.2: at a level no copy reaches further back than its window, also where the bytes do stand there.
func TestWindowOfALevel(t *testing.T) {
	r := rand.New(rand.NewSource(22))
	for _, level := range []int{1, 2} {
		window := 1 << (16 + 2*level)
		for _, period := range []int{window - 1, window, window + 1} {
			b := noise(r, period)
			b = append(b, b[:30000]...)
			size := thereAndBack(t, b, level, len(b)-15000)
			if fits := period <= window; fits != (size < len(b)-29000) {
				t.Errorf("level %d, %d bytes that come again %d behind: %d of %d", level, 30000, period, size, len(b))
			}
		}
	}
}

// P16.2: at level 3 what repeats is found also where it is beyond level 2's window.
func TestWindowOfTheGreatestLevel(t *testing.T) {
	b := noise(rand.New(rand.NewSource(32)), 1<<20+1)
	b = append(b, b[:30000]...)
	if size := thereAndBack(t, b, 3); size > len(b)-29000 {
		t.Errorf("%d of %d", size, len(b))
	}
}

// P16.3: a text in stretches, one of which may be empty, at places about where chunks end.
func TestStretches(t *testing.T) {
	t.Parallel()
	r := rand.New(rand.NewSource(23))
	for _, b := range texts(r, 140000) {
		for _, level := range levels {
			thereAndBack(t, b, level, 0, 0, 1, 1, 2, 3, 100)
			thereAndBack(t, b, level, 65535, 65536, 65537, 65537)
			thereAndBack(t, b, level, 70000, 131071, 131072, 139999, len(b))
		}
	}
	for _, b := range texts(r, 3000) {
		for range 10 {
			ends := make([]int, r.Intn(20))
			for k := range ends {
				ends[k] = r.Intn(len(b) + 1)
			}
			slices.Sort(ends)
			thereAndBack(t, b, r.Intn(4), ends...)
		}
	}
}

// P16.3: each byte a stretch by itself.
func TestStretchesOfOneByte(t *testing.T) {
	r := rand.New(rand.NewSource(24))
	b := append(words(r, 60), make([]byte, 60)...)
	var ends []int
	for k := range b {
		ends = append(ends, k)
	}
	for _, level := range levels {
		thereAndBack(t, b, level, ends...)
	}
}

// P16.3: of a later stretch the first chunk needs nothing but the window: whatever was read ahead of that, by which chunks, with which
// settings, at which place; and Encode need not be handed more of what is ahead than one byte.
func TestStretchesByAnyWindow(t *testing.T) {
	t.Parallel()
	r := rand.New(rand.NewSource(25))
	for what, b := range texts(r, 5000) {
		for _, from := range []int{1, 2, 3, 100, 1001, 2500, 4990, 4999} {
			ahead := string(b[:from])
			for name, p := range map[string]*pen{
				"as they are":          newPen(t).plain(1, ahead),
				"as they are, twice":   newPen(t).plain(1, "abc").plain(2, ahead),
				"thrown away, 1":       newPen(t).packed(0xe0, "some").plain(1, ahead),
				"settings 0 4 4":       newPen(t).settings(0, 4, 4).packed(0xe0, ahead),
				"settings 4 0 1, more": newPen(t).settings(4, 0, 1).packed(0xe0, "abcde").packed(0x80, ahead),
			} {
				for _, held := range []int{1, 2, 3, 99, from - 1, from} {
					if held < 1 || held > from {
						continue
					}
					level := r.Intn(4)
					next := encoded(t, b[from-held:], held, level)
					all := slices.Concat(p.b, next, []byte{0})
					out := slices.Concat(p.out, b[from:])
					wants(t, fmt.Sprintf("%s, %s, from %d, %d held", what, name, from, held), all, len(out), told(out, len(all)))
				}
			}
		}
	}
}

// P16.3: stretches at levels that change, each of which is read by a window of the greatest.
func TestStretchesAtOtherLevels(t *testing.T) {
	r := rand.New(rand.NewSource(26))
	for _, b := range texts(r, 100000) {
		var all []byte
		from := 0
		for _, level := range []int{3, 0, 2, 1, 3, -9, 9} {
			end := min(len(b), from+r.Intn(30000))
			if level == 9 {
				end = len(b)
			}
			all = append(all, encoded(t, b[:end], from, level)...)
			from = end
		}
		all = append(all, 0)
		wants(t, "levels that change", all, len(b), told(b, len(all)))
	}
}

// P16.4: texts that can't be told shorter, alone and between such as can.
func TestBound(t *testing.T) {
	t.Parallel()
	r := rand.New(rand.NewSource(27))
	for n := 0; n < 70000; n += 1 + n/9 {
		encoded(t, noise(r, n), 0, n%4)
		encoded(t, slices.Concat([]byte{1}, noise(r, n)), 1, n%4)
	}
	encoded(t, noise(r, 1<<20+1), 0, 1)
	// Stretches of noise with just so many like bytes between them that a copy, or a chunk, is hardly worth its telling.
	for range 150 {
		var b []byte
		most := 1 + r.Intn(60)
		for len(b) < 8000 {
			b = append(b, noise(r, 1+r.Intn(300))...)
			for range 1 + r.Intn(4) {
				from := r.Intn(len(b))
				b = append(b, b[from:min(len(b), from+1+r.Intn(most))]...)
				b = append(b, byte(r.Intn(256)))
			}
		}
		thereAndBack(t, b, 1+r.Intn(3))
		thereAndBack(t, b, 1+r.Intn(3), r.Intn(4000), 4000+r.Intn(4000))
	}
}

// hardly gives a part that begins at from, behind a text to which it puts what it tells: a copy so long that an LZMA chunk of it alone
// is no longer than it is, but saves less than the head of bytes as they are takes.
func hardly(t *testing.T, r *rand.Rand, b []byte, from int) ([]byte, part) {
	t.Helper()
	for n := shortest; n < 60; n++ {
		text := append(append(slices.Clip(b), byte(r.Intn(256))), b[len(b)-200:len(b)-200+n]...)
		l := []api.Seq{step(1, n, 201)}
		s, _ := lzmaput.New(lc, lp, pb)
		chunk, e := s.Chunk(text, from, from, l)
		if saved := n + 1 - packedHead - len(chunk); e == api.OK && saved >= 0 && saved < plainHead {
			return text, part{from: from, end: len(text), steps: l}
		}
	}
	t.Fatal("no such copy")
	return nil, part{}
}

// P16.4: bytes as they are and chunks that hardly save anything, many times in turn.
func TestBoundOfBothInTurn(t *testing.T) {
	r := rand.New(rand.NewSource(33))
	b := noise(r, 300)
	all := []part{{from: 0, end: 300, steps: []api.Seq{step(300, 0, 0)}}}
	for range 40 {
		from := len(b)
		b = append(b, noise(r, 250)...)
		all = append(all, part{from: from, end: len(b), steps: []api.Seq{step(250, 0, 0)}})
		var p part
		b, p = hardly(t, r, b, len(b))
		all = append(all, p)
	}
	x := newEncoder(b, 0, 2)
	for _, p := range all {
		x.put(p)
	}
	x.putPlain(len(b))
	if n := len(b); len(x.out) > n+n/1000+16 {
		t.Errorf("%d bytes take %d", n, len(x.out))
	}
	wants(t, "both in turn", append(x.out, 0), len(b), told(b, len(x.out)+1))
}

// What stands ahead of a text for the chunks' sake is nowhere in it, and nothing stands there if the text has all bytes.
func TestAhead(t *testing.T) {
	for without := range 256 {
		b := slices.Delete(everyByte(), without, without+1)
		if other, ok := absent(b); !ok || int(other) != without {
			t.Errorf("without %d: %d, %v", without, other, ok)
		}
		x := newEncoder(b, 0, 1)
		if ahead := x.text[:x.lead]; x.lead == 0 || bytes.Count(ahead, []byte{byte(without)}) != x.lead || !bytes.Equal(x.text[x.lead:], b) {
			t.Errorf("without %d: %d bytes ahead", without, x.lead)
		}
	}
	if _, ok := absent(everyByte()); ok {
		t.Error("a byte that is there is absent")
	}
	if x := newEncoder(everyByte(), 0, 1); x.lead != 0 || !bytes.Equal(x.text, everyByte()) {
		t.Errorf("%d bytes ahead", x.lead)
	}
}

// What repeats is told in few bytes, also at the beginning, where few bytes are ahead, and where the repeat reaches far back.
func TestShort(t *testing.T) {
	r := rand.New(rand.NewSource(28))
	phrase, far := []byte("the quick brown fox; "), noise(r, 70000)
	for level := 1; level <= 3; level++ {
		for what, x := range map[string]struct {
			b    []byte
			most int
			ends []int
		}{
			"one byte 10000 times":          {bytes.Repeat([]byte("x"), 10000), 60, nil},
			"one byte 0 100000 times":       {make([]byte, 100000), 250, nil},
			"abc 100 times":                 {bytes.Repeat([]byte("abc"), 100), 30, nil},
			"a phrase 500 times":            {bytes.Repeat(phrase, 500), 90, nil},
			"a phrase, in stretches":        {bytes.Repeat(phrase, 500), 150, []int{1, 1, 5000}},
			"noise twice":                   {slices.Concat(far[:300], far[:300]), 330, nil},
			"much noise twice":              {slices.Concat(far, far), 71000, nil},
			"much noise three times":        {slices.Concat(far, far, far), 71500, nil},
			"much noise twice, a stretch":   {slices.Concat(far, far), 71000, []int{3}},
			"every byte, a phrase 500 time": {append(everyByte(), bytes.Repeat(phrase, 500)...), 400, nil},
			"words":                         {words(r, 20000), 10000, nil},
			"words, few of them":            {words(r, 500), 230, nil},
			"words and every byte":          {append(words(r, 20000), everyByte()...), 11000, nil},
		} {
			if size := thereAndBack(t, x.b, level, x.ends...); size > x.most {
				t.Errorf("level %d, %s: %d bytes, above %d", level, what, size, x.most)
			}
		}
	}
}

// P16.2: from where nothing is to be told, just there, and beyond.
func TestFrom(t *testing.T) {
	b := []byte("some bytes")
	for _, x := range []struct {
		b    []byte
		from int
		want api.Errno
	}{
		{b, 0, api.OK}, {b, 1, api.OK}, {b, 9, api.OK}, {b, 10, api.OK}, {b, 11, api.ErrArg}, {b, -1, api.ErrArg},
		{b, math.MinInt, api.ErrArg}, {b, math.MaxInt, api.ErrArg}, {b, 1 << 32, api.ErrArg},
		{nil, 0, api.OK}, {nil, 1, api.ErrArg}, {nil, -1, api.ErrArg}, {[]byte{}, 0, api.OK}, {[]byte{}, 1, api.ErrArg},
		// The room behind its end is not b's.
		{b[:4], 5, api.ErrArg}, {b[:4], 4, api.OK},
	} {
		for _, level := range []int{0, 1, -1, math.MinInt, math.MaxInt} {
			out, e := Encode(x.b, x.from, level)
			if e != x.want || (len(out) > 0) != (e == api.OK && x.from < len(x.b)) {
				t.Errorf("Encode(%q, %d, %d): % x, %d", x.b, x.from, level, out, int(e))
			}
		}
	}
}

// P16.2: levels are brought into 0 to MaxLevel.
func TestLevels(t *testing.T) {
	r := rand.New(rand.NewSource(29))
	b := noise(r, 60000)
	b = slices.Concat(b, words(r, 30000), b, b)
	for level, like := range map[int]int{-1: 0, math.MinInt: 0, -1 << 32: 0, 4: 3, 1 << 32: 3, math.MaxInt: 3, 1<<32 + 1: 3} {
		if !bytes.Equal(encoded(t, b, 0, level), encoded(t, b, 0, like)) {
			t.Errorf("level %d is not as level %d", level, like)
		}
	}
}

// P16.2: as many bytes as there may be, and one more; from is looked at first.
func TestMostEncoded(t *testing.T) {
	t.Parallel()
	most := make([]byte, 1<<24+1)
	copy(most[1<<23:], strings.Repeat("some bytes; ", 1<<16))
	b := most[:1<<24]
	for _, level := range []int{0, 3} {
		all := append(encoded(t, b, 0, level), 0)
		if out, used, e := Decode(all, windowOf(len(b), level)); e != api.OK || used != len(all) || !bytes.Equal(out, b) {
			t.Errorf("level %d: %d bytes, %d used, %d", level, len(out), used, int(e))
		}
	}
	encoded(t, b, len(b), 3)
	encoded(t, b, len(b)-1, 3)
	for from, want := range map[int]api.Errno{
		0: api.ErrLong, 1: api.ErrLong, 1 << 24: api.ErrLong, 1<<24 + 1: api.ErrLong, 1<<24 + 2: api.ErrArg, -1: api.ErrArg,
	} {
		if out, e := Encode(most, from, 1); e != want || len(out) > 0 {
			t.Errorf("%d bytes from %d: %d bytes, %d", len(most), from, len(out), int(e))
		}
	}
}

// P16.3: many texts of kinds in turn, in stretches, at each level.
func TestManyTexts(t *testing.T) {
	r := rand.New(rand.NewSource(30))
	for range 150 {
		n := 1 + r.Intn(1<<r.Intn(18))
		b := texts(r, n)["both in turn"]
		ends := []int{r.Intn(n + 1), r.Intn(n + 1), r.Intn(n + 1)}
		slices.Sort(ends)
		thereAndBack(t, b, r.Intn(4), ends[:r.Intn(4)]...)
	}
}

// R2, R3: the same again is the same, whatever was encoded between, and shares no memory.
func TestEncodedAgain(t *testing.T) {
	r := rand.New(rand.NewSource(31))
	for what, b := range texts(r, 9000) {
		first := encoded(t, b, 100, 2)
		encoded(t, words(r, 500), 0, 1)
		second := encoded(t, b, 100, 2)
		if !bytes.Equal(first, second) {
			t.Errorf("%s: encoded otherwise", what)
		}
		kept := slices.Clone(first)
		clear(second[:cap(second)])
		clear(b)
		if !bytes.Equal(first, kept) {
			t.Errorf("%s: memory is shared", what)
		}
	}
}
