package finder

import (
	"bytes"
	"math"
	"math/rand"
	"reflect"
	"slices"
	"strings"
	"sync"
	"testing"

	"baler/api"
)

// parse calls Parse, holds the steps against P8.1 and P8.4, and tells them.
func parse(t *testing.T, b []byte, from, level, window, least, most int) []api.Seq {
	t.Helper()
	l := Parse(b, from, level, window, least, most)
	x := brought(b, from, level, window, least, most)
	hold(t, b, x, l)
	if out, e := Back(plain(b, x.from, l), x.from, l); e != api.OK || !bytes.Equal(out, b) {
		t.Fatalf("%+v: the steps make another text, %v", x, e)
	}
	return l
}

// P8.1: the chapter's examples.
func TestParseExamples(t *testing.T) {
	if l := parse(t, []byte("abcabcabc"), 0, 1, 100, 3, 100); !slices.Equal(l, []api.Seq{{Lits: 3, Match: 6, Back: 3}}) {
		t.Error(l)
	}
	if l := parse(t, []byte("abc"), 0, 0, 100, 3, 100); !slices.Equal(l, []api.Seq{{Lits: 3}}) {
		t.Error(l)
	}
	if l := parse(t, []byte("abc"), 3, 1, 100, 3, 100); len(l) != 0 {
		t.Error(l)
	}
}

// P8.1, P8.4: texts with many like parts and with none, of all levels, windows great and small.
func TestParseTexts(t *testing.T) {
	for name, b := range texts() {
		for level := range 4 {
			for _, window := range []int{1, 2, 3, 8, 64, 100, 1000, 1 << 24} {
				for _, x := range [][2]int{{2, 2}, {2, 3}, {2, 1 << 16}, {3, 3}, {3, 100}, {4, 255}, {4, 1 << 16}, {7, 256}, {64, 64}, {64, 257}, {1 << 16, 1 << 16}} {
					for _, from := range []int{0, 1, len(b) / 2, len(b) - 1, len(b)} {
						if l := parse(t, b, from, level, window, x[0], x[1]); t.Failed() {
							t.Fatal(name, l)
						}
					}
				}
			}
		}
	}
}

// P8.1, P8.4: texts made by chance, of few letters, with whatever numbers.
func TestParseByChance(t *testing.T) {
	r := rand.New(rand.NewSource(81))
	for range 4000 {
		b := make([]byte, r.Intn(200))
		letters := 1 + r.Intn(5)
		for i := range b {
			b[i] = byte('a' + r.Intn(letters))
			if i > 10 && r.Intn(3) > 0 {
				b[i] = b[i-1-r.Intn(10)]
			}
		}
		parse(t, b, r.Intn(len(b)+1), r.Intn(4), 1+r.Intn(100), 2+r.Intn(6), 2+r.Intn(40))
	}
}

// P8.1: long texts, whose places go round the ring and whose chains are cut.
func TestParseLong(t *testing.T) {
	r := rand.New(rand.NewSource(82))
	b := make([]byte, 1<<17)
	r.Read(b)
	for at := 1 << 14; at+1000 <= len(b); at += 3000 {
		copy(b[at:at+1000], b[at-1-r.Intn(1<<14):])
	}
	for level := 1; level < 4; level++ {
		for _, window := range []int{1000, 1 << 12, 1<<14 + 1, 1 << 24} {
			for _, from := range []int{0, 1 << 15, 100001} {
				l := parse(t, b, from, level, window, 4, 1<<16)
				if window > 1<<14 && len(l) < (len(b)-from)/6000 {
					t.Error(level, window, from, len(l))
				}
			}
		}
	}
}

// P8.1: each number is brought into its stretch, alone and with others.
func TestParseBrought(t *testing.T) {
	b := bytes.Repeat([]byte("abcd, abcd; dabc. "), 30)
	odd := []int{math.MinInt, math.MinInt + 1, -1, 0, 1, 2, 3, 4, 64, 65535, 65536, 65537, 1 << 24, 1<<24 + 1, math.MaxInt - 1, math.MaxInt}
	usual := []int{100, 2, 1000, 3, 50}
	try := func(n []int) {
		t.Helper()
		l := parse(t, b, n[0], n[1], n[2], n[3], n[4])
		x := brought(b, n[0], n[1], n[2], n[3], n[4])
		if again := Parse(b, x.from, x.level, x.window, x.least, x.most); !slices.Equal(l, again) {
			t.Fatal(n, l, again)
		}
	}
	for i := range usual {
		for _, a := range odd {
			n := slices.Clone(usual)
			n[i] = a
			try(n)
			for k := range usual {
				for _, c := range odd {
					m := slices.Clone(n)
					m[k] = c
					try(m)
				}
			}
		}
	}
	for _, a := range odd {
		try([]int{a, a, a, a, a})
	}
}

// P8.1, R6: nothing behind from, nil and empty texts.
func TestParseNothing(t *testing.T) {
	for _, b := range [][]byte{nil, {}, {1}, []byte("abcabc")} {
		for _, from := range []int{len(b), len(b) + 1, math.MaxInt} {
			for level := range 4 {
				if l := Parse(b, from, level, 100, 2, 100); len(l) != 0 {
					t.Error(b, from, level, l)
				}
			}
		}
	}
	for _, level := range []int{0, 3} {
		if l := parse(t, []byte{5}, 0, level, 100, 2, 100); !slices.Equal(l, []api.Seq{{Lits: 1}}) {
			t.Error(l)
		}
	}
}

// noise tells n bytes in which no three stand twice, nor any two of them close by.
func noise(n int) []byte {
	b := make([]byte, n)
	for i := range b {
		b[i] = byte(i)
		if i%2 == 1 {
			b[i] = byte(i >> 8 * 37)
		}
	}
	return b
}

// P8.1: where a match may end and begin; what is found there.
func TestParseEdges(t *testing.T) {
	part := "0123456789abcdefghij"
	sep := func(n int) string { return string(noise(600)[200 : 200+n]) }
	for _, x := range []struct {
		name                string
		b                   string
		from, window, least int
		most                int
		want                []api.Seq
	}{
		{"a match that ends just at the end", part + sep(9) + part, 0, 100, 3, 100, []api.Seq{{Lits: 29, Match: 20, Back: 29}}},
		{"one Lit behind it", part + sep(9) + part + "!", 0, 100, 3, 100, []api.Seq{{Lits: 29, Match: 20, Back: 29}, {Lits: 1}}},
		{"a match that runs into itself", "xyxyxyxyx", 0, 100, 3, 100, []api.Seq{{Lits: 2, Match: 7, Back: 2}}},
		{"into the first bytes, and to the very first one", part + sep(9) + part, 29, 100, 3, 100, []api.Seq{{Match: 20, Back: 29}}},
		{"into the midst of the first bytes", "--" + part + sep(9) + part, 31, 100, 3, 100, []api.Seq{{Match: 20, Back: 29}}},
		{"across from", part + sep(9) + part, 35, 100, 3, 100, []api.Seq{{Match: 14, Back: 29}}},
		{"just the window back", part + sep(9) + part, 29, 29, 3, 100, []api.Seq{{Match: 20, Back: 29}}},
		{"one more than the window", part + sep(9) + part, 29, 28, 3, 100, []api.Seq{{Lits: 20}}},
		{"just least", part + sep(9) + part, 29, 100, 20, 100, []api.Seq{{Match: 20, Back: 29}}},
		{"one less than least", part + sep(9) + part, 29, 100, 21, 100, []api.Seq{{Lits: 20}}},
		{"one less than least, and a Lit", part + sep(9) + part + "!", 29, 100, 21, 100, []api.Seq{{Lits: 21}}},
		{"just most", part + sep(9) + part, 29, 100, 3, 20, []api.Seq{{Match: 20, Back: 29}}},
		{"one longer than most", part + sep(9) + part, 29, 100, 3, 19, []api.Seq{{Match: 19, Back: 29}, {Lits: 1}}},
		{"least and most the same", part + sep(9) + part, 29, 100, 10, 10, []api.Seq{{Match: 10, Back: 29}, {Match: 10, Back: 29}}},
		{"most below least", part + sep(9) + part, 29, 100, 10, 4, []api.Seq{{Match: 10, Back: 29}, {Match: 10, Back: 29}}},
		{"least 2", "ab-+ab", 4, 100, 2, 100, []api.Seq{{Match: 2, Back: 4}}},
		{"short and far away, which is not worth its telling", "zq" + sep(300) + "zq", 302, 400, 2, 100, []api.Seq{{Lits: 2}}},
		{"a later, longer one", "abcX" + sep(9) + "bcdefgh" + sep(20)[9:] + "abcdefgh", 31, 100, 3, 100, []api.Seq{{Lits: 1, Match: 7, Back: 19}}},
		{"from one below the length", "aaaa", 3, 100, 2, 100, []api.Seq{{Lits: 1}}},
		{"least 64", strings.Repeat(part, 4)[:64] + "!" + strings.Repeat(part, 4)[:64], 65, 100, 64, 64, []api.Seq{{Match: 64, Back: 65}}},
	} {
		for level := 1; level < 4; level++ {
			if l := parse(t, []byte(x.b), x.from, level, x.window, x.least, x.most); !slices.Equal(l, x.want) {
				t.Error(x.name, level, l)
			}
		}
	}
}

// P8.1: the greatest least and most there are.
func TestParseGreatest(t *testing.T) {
	r := rand.New(rand.NewSource(83))
	part := make([]byte, 65536)
	r.Read(part)
	b := slices.Concat(part, part, []byte("!"))
	for level := 1; level < 4; level++ {
		if l := parse(t, b, 65536, level, 65536, 65536, 65536); !slices.Equal(l, []api.Seq{{Match: 65536, Back: 65536}, {Lits: 1}}) {
			t.Error(l)
		}
		if l := parse(t, b, 65536, level, 65535, 65536, 65536); !slices.Equal(l, []api.Seq{{Lits: 65537}}) {
			t.Error(l)
		}
		if l := parse(t, b[1:], 65535, level, 1<<24, 65536, 65536); !slices.Equal(l, []api.Seq{{Lits: 65537}}) {
			t.Error(l)
		}
		if l := parse(t, slices.Concat(part, part[:10], part, part[:10]), 65546, level, 1<<24, 4, 1<<20); !slices.Equal(l, []api.Seq{{Match: 65536, Back: 65546}, {Match: 10, Back: 65536}}) {
			t.Error(l)
		}
	}
}

// P8.1: the greatest window there is; like bytes just as far back, and one farther.
func TestParseGreatestWindow(t *testing.T) {
	part := noise(600)[100:200]
	for back, want := range map[int][]api.Seq{1 << 24: {{Match: 100, Back: 1 << 24}}, 1<<24 + 1: {{Lits: 100}}} {
		b := make([]byte, back+100)
		copy(b, part)
		copy(b[back:], part)
		for _, window := range []int{1 << 24, 1<<24 + 1, math.MaxInt} {
			if l := Parse(b, back, 1, window, 10, 100); !slices.Equal(l, want) {
				t.Error(back, window, l)
			}
		}
	}
}

// P8.1: a long match, of which marks are taken down, just the window back, and one farther.
func TestParseLongWindow(t *testing.T) {
	r := rand.New(rand.NewSource(86))
	part := make([]byte, 500)
	r.Read(part)
	for _, least := range []int{2, 40, 400} {
		b := slices.Concat(part, noise(500), part)
		if l := parse(t, b, 1000, 2, 1000, least, 1000); !slices.Equal(l, []api.Seq{{Match: 500, Back: 1000}}) {
			t.Error(least, l)
		}
		for _, s := range parse(t, b, 1000, 2, 999, least, 1000) {
			if s.Match > 10 {
				t.Error(least, s)
			}
		}
	}
}

// A long match is found though its chains are full of nearer places.
func TestParseDeep(t *testing.T) {
	r := rand.New(rand.NewSource(84))
	part := make([]byte, 300)
	r.Read(part)
	b := slices.Clone(part)
	for len(b) < 60000 {
		b = append(b, part[r.Intn(290):][:8]...)
	}
	from := len(b)
	b = append(b, part...)
	for level := 1; level < 4; level++ {
		l := parse(t, b, from, level, 1<<18, 4, 1<<16)
		if !slices.ContainsFunc(l, func(s api.Seq) bool { return s.Match >= 200 && s.Back == from }) {
			t.Error(level, l)
		}
	}
}

// A long match begins where its like bytes begin, also if it was found later, down to the very first byte.
func TestParseWiden(t *testing.T) {
	r := rand.New(rand.NewSource(87))
	part := make([]byte, 200)
	r.Read(part)
	for _, first := range []string{"", "!"} {
		b := append([]byte(first), part...)
		for round := range 70 {
			for i := range part[1:] {
				b = append(b, part[i], part[i+1], byte(round), byte(i))
			}
		}
		b = append(b, make([]byte, 300)...)
		from := len(b)
		b = append(b, part...)
		for level := 1; level < 4; level++ {
			if l := parse(t, b, from, level, 1<<18, 2, 1<<16); !slices.Equal(l, []api.Seq{{Match: 200, Back: from - len(first)}}) {
				t.Error(first, level, l)
			}
			if l := parse(t, b, from, level, 1<<18, 2, 199); !slices.Equal(l, []api.Seq{{Lits: 1, Match: 199, Back: from - len(first)}}) {
				t.Error(first, level, l)
			}
		}
	}
}

// Behind much noise less is tried, but something always; behind matches it is as much as ever.
func TestParseBehindNoise(t *testing.T) {
	r := rand.New(rand.NewSource(88))
	b := make([]byte, 20000)
	r.Read(b)
	b = append(b, make([]byte, 5000)...)
	for level := 1; level < 4; level++ {
		if l := parse(t, b, 0, level, 1<<18, 4, 1<<16); l[len(l)-1].Match < 4990 {
			t.Error(level, l)
		}
		s := newSearch(b[:20000], level, 1<<18, 4, 1<<16)
		full := s.tries()
		s.steps(0)
		if full != depths[level] || s.tries() >= full {
			t.Error(level, full, s.tries())
		}
		var mixed []byte
		for at := 0; at < 20000; at += 400 {
			mixed = slices.Concat(mixed, b[at:at+400], b[20000:20200])
		}
		s = newSearch(mixed, level, 1<<18, 4, 1<<16)
		s.steps(0)
		if s.tries() != full {
			t.Error(level, full, s.tries())
		}
	}
}

// P8.2: with level 0 there is no match, whatever else is asked.
func TestParseLevelZero(t *testing.T) {
	for _, b := range texts() {
		for _, level := range []int{math.MinInt, -1, 0} {
			for _, from := range []int{0, len(b) / 3} {
				l := parse(t, b, from, level, 1<<24, 2, 1<<16)
				if want := []api.Seq{{Lits: len(b) - from}}; len(b) > from && !slices.Equal(l, want) {
					t.Error(l)
				}
			}
		}
	}
}

// same holds P8.2 for n bytes of 'a' behind first.
func same(t *testing.T, first string, n, level, window, least, most int) {
	t.Helper()
	b := append([]byte(first), bytes.Repeat([]byte("a"), n)...)
	l := parse(t, b, len(first), level, window, least, most)
	if bound := 2 + n/min(into(most, least, 65536), 256); len(l) > bound {
		t.Fatal(first, n, level, window, least, most, ": ", len(l), "steps, above", bound)
	}
}

// P8.2: bytes that are all the same, behind first ones of all kinds.
func TestParseSame(t *testing.T) {
	a := strings.Repeat("a", 300)
	firsts := []string{"", "a", "b", "aaab", a, a + "b", a[:70] + "b" + a[:64] + "c" + a[:3] + "d", "ab" + a[:2] + "bb" + a[:100], string(noise(500)), string(noise(500)) + "aaa"}
	lengths := []int{1000, 4095, 4096, 4097, 70000}
	for n := range 300 {
		lengths = append(lengths, n)
	}
	for level := 1; level < 4; level++ {
		for _, first := range firsts {
			for _, most := range []int{2, 255, 256, 257, 1 << 16} {
				for _, least := range []int{2, 3, 64} {
					for _, n := range lengths {
						same(t, first, n, level, 64, least, most)
					}
					same(t, first, 5000, level, 1<<24, least, most)
				}
			}
		}
	}
}

// P8.2: bytes of all kinds, since some of their beginnings are marks and others are not.
func TestParseSameOfAnyByte(t *testing.T) {
	for c := range 256 {
		run := bytes.Repeat([]byte{byte(c)}, 10000)
		for _, first := range [][]byte{nil, run[:1], run[:200], append(bytes.Clone(run[:200]), byte(c+1))} {
			b := slices.Concat(first, run)
			for level := 1; level < 4; level++ {
				if l := parse(t, b, len(first), level, 64, 3, 273); len(l) > 2+10000/256 {
					t.Error(c, len(first), level, len(l))
				}
			}
		}
	}
}

// R3: what is handed in is not changed, with the room behind its end; the answer is new memory each time.
func TestParseMemory(t *testing.T) {
	room := []byte("abcabcabcabcabc, abcabc, and what stands behind it")
	b := room[:24]
	kept := bytes.Clone(room)
	first := Parse(b, 0, 3, 100, 3, 100)
	want := slices.Clone(first)
	clear(first)
	if again := Parse(b, 0, 3, 100, 3, 100); !slices.Equal(again, want) {
		t.Error(again, want)
	}
	if !bytes.Equal(room, kept) {
		t.Errorf("%q", room)
	}
	alone := Parse(bytes.Clone(b), 0, 3, 100, 3, 100)
	if !reflect.DeepEqual(alone, want) {
		t.Error(alone, want)
	}
}

// R2: the answer hangs on the arguments alone, also with many calls at a time.
func TestParseAtOnce(t *testing.T) {
	b := slices.Concat(texts()["copies"], texts()["words"])
	want := Parse(b, 100, 3, 5000, 3, 300)
	var all sync.WaitGroup
	for range 8 {
		all.Go(func() {
			for range 5 {
				if l := Parse(b, 100, 3, 5000, 3, 300); !slices.Equal(l, want) {
					t.Error("another answer")
				}
			}
		})
	}
	all.Wait()
}
