package literals

import (
	"bytes"
	"math/rand"
	"slices"
	"testing"

	"baler/api"
)

// checkWrite writes literals and reads them again, with bytes behind them.
func checkWrite(t *testing.T, lits []byte, w []uint8) (b []byte, next []uint8) {
	t.Helper()
	roomL, roomW := slices.Concat(lits, []byte{77, 77}), slices.Concat(w, []uint8{78, 78})
	b, next, e := Write(roomL[:len(lits)], roomW[:len(w)])
	if e != api.OK {
		t.Fatalf("Write of %d literals: %d", len(lits), int(e))
	}
	if !bytes.Equal(roomL, slices.Concat(lits, []byte{77, 77})) || !bytes.Equal(roomW, slices.Concat(w, []uint8{78, 78})) {
		t.Fatal("Write has changed what it was handed")
	}
	if len(b) > len(lits)+3 {
		t.Fatalf("%d literals in %d bytes", len(lits), len(b))
	}
	want := answer{lits: lits, next: next, used: len(b)}
	for _, behind := range [][]byte{nil, {0}, {1, 2}, {0xff, 0xff, 0xff, 0xff}, bytes.Repeat([]byte{0x80}, 50)} {
		for _, most := range []int{len(lits), min(len(lits)+1, api.MaxBlock), api.MaxBlock} {
			if a := reads(t, slices.Concat(b, behind), w, most); !a.same(want) {
				t.Fatalf("%d literals are read as %d, %v, %d, error %d", len(lits), len(a.lits), a.next, a.used, int(a.e))
			}
		}
	}
	return b, next
}

// kindAndForm tells what a section is.
func kindAndForm(b []byte) [2]int {
	return [2]int{int(b[0]) % 4, int(b[0]) / 4 % 4}
}

// P11.2, P11.3: literals that nothing makes shorter are raw; the head is as short as it can be.
func TestWriteNoise(t *testing.T) {
	r := rand.New(rand.NewSource(114))
	for _, c := range []struct{ size, head int }{{0, 1}, {1, 1}, {2, 1}, {30, 1}, {31, 1}, {32, 2}, {33, 2}, {1023, 2}, {1024, 2}, {4095, 2}, {4096, 3}, {16383, 3}, {16384, 3}, {131071, 3}, {131072, 3}} {
		for _, w := range [][]uint8{nil, {1, 1}, {7}, flat(256)} {
			lits := textOf(r, 256, c.size)
			b, next := checkWrite(t, lits, w)
			if len(b) != c.size+c.head || b[0]%4 != 0 {
				t.Errorf("%d literals of noise in %d bytes, kind %d", c.size, len(b), b[0]%4)
			}
			if !bytes.Equal(next, w) {
				t.Errorf("%d literals of noise: weights %v", c.size, next)
			}
		}
	}
}

// P11.2, P11.3: nil and empty literals and weights.
func TestWriteNothing(t *testing.T) {
	for _, lits := range [][]byte{nil, {}} {
		for _, w := range [][]uint8{nil, {}, {1}, {1, 1}} {
			if b, next := checkWrite(t, lits, w); !bytes.Equal(b, []byte{0}) || !bytes.Equal(next, w) {
				t.Errorf("% x, %v", b, next)
			}
		}
	}
}

// P11.2: just MaxBlock literals, and one more.
func TestWriteTooMany(t *testing.T) {
	r := rand.New(rand.NewSource(115))
	for _, lits := range [][]byte{make([]byte, api.MaxBlock+1), textOf(r, 256, api.MaxBlock+1), textOf(r, 4, api.MaxBlock+1), textOf(r, 4, 2*api.MaxBlock)} {
		for _, w := range [][]uint8{nil, {1}, {1, 1}, flat(4)} {
			if b, next, e := Write(lits, w); e != api.ErrLong || len(b) != 0 || len(next) != 0 {
				t.Errorf("%d literals: %d bytes, %v, %d", len(lits), len(b), next, int(e))
			}
			checkWrite(t, lits[:api.MaxBlock], w)
		}
	}
}

// P11.2, P11.4: one byte, so many times; a thousand, 999 and 1001 among them.
func TestWriteOneByte(t *testing.T) {
	for _, c := range []struct{ size, most int }{{1, 2}, {2, 2}, {3, 2}, {31, 2}, {32, 3}, {999, 3}, {1000, 3}, {1001, 3}, {4095, 3}, {4096, 4}, {5000, 4}, {131071, 4}, {131072, 4}} {
		for _, x := range []byte{0, 1, 'a', 255} {
			for _, w := range [][]uint8{nil, {9}, {1, 1}, {1, 1, 2}} {
				b, next := checkWrite(t, bytes.Repeat([]byte{x}, c.size), w)
				if len(b) > c.most {
					t.Errorf("%d times %d in %d bytes", c.size, x, len(b))
				}
				if !bytes.Equal(next, w) {
					t.Errorf("%d times %d: weights %v", c.size, x, next)
				}
			}
		}
	}
}

// P11.2: a byte that is not as the others are is not left out, wherever it stands.
func TestWriteAllAlikeButOne(t *testing.T) {
	for _, size := range []int{2, 3, 31, 32, 1000} {
		for _, at := range []int{0, 1, size / 2, size - 1} {
			lits := bytes.Repeat([]byte{5}, size)
			lits[at] = 6
			checkWrite(t, lits, nil)
			checkWrite(t, lits, []uint8{0, 0, 0, 0, 0, 1, 1})
		}
	}
}

// P11.4: four unlike bytes, whichever, in 500, in 501 and in more, in any order.
func TestWriteFourUnlike(t *testing.T) {
	r := rand.New(rand.NewSource(116))
	fours := [][4]byte{{0, 1, 2, 3}, {252, 253, 254, 255}, {0, 85, 170, 255}, {0, 1, 2, 255}, {0, 253, 254, 255}, {'a', 'b', 'c', 'd'}, {127, 128, 129, 130}, {0, 127, 128, 129}}
	for range 300 {
		four := [4]byte{byte(r.Intn(256)), byte(r.Intn(256)), byte(r.Intn(256)), byte(r.Intn(256))}
		sorted := slices.Sorted(slices.Values(four[:]))
		if len(slices.Compact(sorted)) == 4 {
			fours = append(fours, four)
		}
	}
	for k, four := range fours {
		for _, size := range []int{500, 501, 502, 1023, 1024, 2000} {
			for _, w := range [][]uint8{nil, {1, 1}, steep()} {
				lits := make([]byte, size)
				for i := range lits {
					lits[i] = four[r.Intn(4)]
				}
				copy(lits, four[:])
				if b, _ := checkWrite(t, lits, w); len(b) >= size {
					t.Errorf("%v: %d literals in %d bytes", four, size, len(b))
				}
			}
		}
		// One that comes nearly always takes one bit.
		if k < 8 {
			lits := bytes.Repeat(four[:1], 4000)
			copy(lits, four[:])
			if b, _ := checkWrite(t, lits, nil); len(b) > 600 {
				t.Errorf("%v: mostly one in %d bytes", four, len(b))
			}
		}
	}
	for _, size := range []int{16383, 16384, 131071, 131072} {
		if b, _ := checkWrite(t, textOf(r, 4, size), nil); len(b) > size/4+30 {
			t.Errorf("%d literals in %d bytes", size, len(b))
		}
	}
}

// P11.2, P11.3: which kind and form sizes of each kind of room come to, just below and above.
func TestWriteForms(t *testing.T) {
	r := rand.New(rand.NewSource(117))
	for _, c := range []struct{ size, form int }{{100, 0}, {1022, 0}, {1023, 0}, {1024, 2}, {1025, 2}, {1026, 2}, {1027, 2}, {16382, 2}, {16383, 2}, {16384, 3}, {16385, 3}, {131069, 3}, {131070, 3}, {131071, 3}, {131072, 3}} {
		lits := skewed(r, 16, c.size)
		b, w := checkWrite(t, lits, nil)
		if kindAndForm(b) != [2]int{2, c.form} {
			t.Errorf("%d literals: kind and form %v", c.size, kindAndForm(b))
		}
		again, next := checkWrite(t, lits, w)
		if kindAndForm(again) != [2]int{3, c.form} || len(again) >= len(b) {
			t.Errorf("%d literals by the weights ahead: kind and form %v, %d and %d bytes", c.size, kindAndForm(again), len(b), len(again))
		}
		if !bytes.Equal(next, w) {
			t.Errorf("%d literals by the weights ahead: weights %v, not %v", c.size, next, w)
		}
	}
}

// P11.2: the weights ahead serve where they are good enough; else others are made, or none.
func TestWriteTakesTheBest(t *testing.T) {
	r := rand.New(rand.NewSource(118))
	abc := skewed(r, 12, 3000)
	_, w := checkWrite(t, abc, nil)
	for name, c := range map[string]struct {
		lits []byte
		w    []uint8
		kind int
	}{
		"like those ahead":          {skewed(r, 12, 100), w, 3},
		"few, none ahead":           {skewed(r, 12, 12), nil, 0},
		"a byte without a word":     {append(skewed(r, 12, 3000), 200), w, 2},
		"few, one without a word":   {[]byte{1, 0, 200}, w, 0},
		"ahead it was otherwise":    {mirrored(skewed(r, 12, 3000)), w, 2},
		"long words, 16383 of them": {textOf(r, 2, 16383), steep(), 2},
		"long words, 1023 of them":  {textOf(r, 2, 1023), steep(), 2},
		"long words, a few":         {[]byte{0, 1, 1}, steep(), 0},
		"ahead 8 bits each":         {textOf(r, 256, 3000), flat(256), 0},
		"flat and right":            {textOf(r, 16, 3000), flat(16), 3},
		"weights that are none":     {abc, []uint8{1, 1, 1}, 2},
	} {
		b, next := checkWrite(t, c.lits, c.w)
		if int(b[0])%4 != c.kind {
			t.Errorf("%s: kind %d", name, b[0]%4)
		}
		if c.kind != 2 && !bytes.Equal(next, c.w) {
			t.Errorf("%s: weights %v", name, next)
		}
		if c.kind == 2 && bytes.Equal(next, c.w) {
			t.Errorf("%s: weights as they were", name)
		}
	}
}

// mirrored makes the seldom bytes of twelve the frequent ones.
func mirrored(b []byte) []byte {
	for k := range b {
		b[k] = 11 - b[k]
	}
	return b
}

// P11.2: no way that the chapter has, laid by hand, is shorter.
func TestWriteIsShortest(t *testing.T) {
	r := rand.New(rand.NewSource(119))
	kinds := map[int]int{}
	for range 1500 {
		n := 2 + r.Intn(14)
		lits := skewed(r, n, r.Intn(80))
		w := [][]uint8{nil, flat(16), steep(), {8, 7, 6, 5, 4, 3, 2, 1, 1}}[r.Intn(4)]
		b, next := checkWrite(t, lits, w)
		kinds[int(b[0])%4]++
		form := 0
		if len(lits) > 31 {
			form = 1
		}
		others := [][]byte{sectionOf(t, 0, form, len(lits), lits)}
		if len(w) > 0 && !slices.ContainsFunc(lits, func(x byte) bool { return int(x) >= len(w) }) {
			others = append(others, packedSection(t, 3, 0, w, lits))
		}
		for _, other := range others {
			if len(other) < len(b) {
				t.Fatalf("%v by %v: %d bytes, kind %d in %d bytes", lits, w, len(b), other[0]%4, len(other))
			}
		}
		if b[0]%4 == 2 && bytes.Equal(next, w) {
			t.Fatalf("%v by %v: weights are told that hold ahead", lits, w)
		}
	}
	for kind := range 4 {
		if kinds[kind] == 0 {
			t.Errorf("kinds: %v", kinds)
		}
	}
}

// P11.2: words stay within 11 bits, however unlike the bytes' numbers are.
func TestWriteSteepTexts(t *testing.T) {
	var lits []byte
	for k := range 16 {
		lits = append(lits, bytes.Repeat([]byte{byte(16 * k)}, 1<<k)...)
	}
	r := rand.New(rand.NewSource(120))
	r.Shuffle(len(lits), func(i, k int) { lits[i], lits[k] = lits[k], lits[i] })
	b, next := checkWrite(t, lits, nil)
	if len(b) > len(lits)/3 || slices.Max(next) != 11 || len(next) != 241 {
		t.Errorf("%d literals in %d bytes, by %v", len(lits), len(b), next)
	}
}

// P11.2, P11.3: all 256 bytes, and single bytes far apart.
func TestWriteManyAlphabets(t *testing.T) {
	r := rand.New(rand.NewSource(121))
	for n := 2; n <= 256; n += 1 + n/8 {
		for _, size := range []int{600, 3000} {
			lits := skewed(r, n, size)
			checkWrite(t, lits, nil)
			for k := range lits {
				lits[k] = 255 - lits[k]
			}
			checkWrite(t, lits, nil)
		}
	}
	checkWrite(t, bytes.Repeat([]byte{0, 255}, 300), nil)
	checkWrite(t, bytes.Repeat([]byte{254, 255, 255}, 3000), nil)
}

// P11.3: sections one behind the other, each of which leans on what the one ahead has left.
func TestWriteOneBehindTheOther(t *testing.T) {
	r := rand.New(rand.NewSource(122))
	var all []byte
	var texts [][]byte
	var w []uint8
	kinds := map[int]int{}
	for k := range 200 {
		lits := skewed(r, 1+r.Intn(20), r.Intn(1+r.Intn(3000)))
		if k%5 == 0 {
			lits = textOf(r, 256, r.Intn(40))
		}
		b, next := checkWrite(t, lits, w)
		all, texts, w = append(all, b...), append(texts, lits), next
		kinds[int(b[0])%4]++
	}
	for kind := range 4 {
		if kinds[kind] == 0 {
			t.Errorf("kinds: %v", kinds)
		}
	}
	w = nil
	for k, lits := range texts {
		a := reads(t, all, w, api.MaxBlock)
		if a.e != api.OK || !bytes.Equal(a.lits, lits) {
			t.Fatalf("section %d: %d literals of %d, error %d", k, len(a.lits), len(lits), int(a.e))
		}
		all, w = all[a.used:], a.next
	}
	if len(all) != 0 {
		t.Errorf("%d bytes are left", len(all))
	}
}

// P11.2: weights that make no code do no harm, and stay as they were where none are told.
func TestWriteByNoCode(t *testing.T) {
	r := rand.New(rand.NewSource(123))
	for _, w := range noCodes() {
		for _, lits := range [][]byte{nil, {0}, {0, 1}, bytes.Repeat([]byte{1}, 40), textOf(r, 256, 300), textOf(r, 2, 40), textOf(r, 2, 4000)} {
			b, next := checkWrite(t, lits, w)
			if b[0]%4 == 3 || b[0]%4 != 2 && !bytes.Equal(next, w) {
				t.Errorf("%d literals by %v: kind %d, %v", len(lits), w, b[0]%4, next)
			}
		}
	}
}

// R2, R3: nothing that was handed in is kept, and answers share nothing, and are the same each time.
func TestWriteGivesNewMemory(t *testing.T) {
	r := rand.New(rand.NewSource(124))
	w := flat(16)
	for _, lits := range [][]byte{nil, {1}, {1, 2, 3}, bytes.Repeat([]byte{1}, 40), textOf(r, 256, 300), textOf(r, 16, 500), textOf(r, 2, 500), textOf(r, 16, 5000), textOf(r, 2, 5000)} {
		ownL, ownW := slices.Clone(lits), slices.Clone(w)
		b, next, _ := Write(ownL, ownW)
		b2, next2, _ := Write(ownL, ownW)
		keptB, keptW := slices.Clone(b), slices.Clone(next)
		spoil(ownL)
		spoil(ownW)
		if !bytes.Equal(b, keptB) || !bytes.Equal(next, keptW) || !bytes.Equal(b2, keptB) || !bytes.Equal(next2, keptW) {
			t.Errorf("%d literals: what was handed in is kept", len(lits))
		}
		spoil(b)
		if !bytes.Equal(next, keptW) || !bytes.Equal(b2, keptB) || !bytes.Equal(next2, keptW) {
			t.Errorf("%d literals: bytes are shared", len(lits))
		}
		spoil(next)
		b3, next3 := checkWrite(t, lits, w)
		if !bytes.Equal(b3, keptB) || !bytes.Equal(next3, keptW) || !bytes.Equal(next2, keptW) {
			t.Errorf("%d literals: weights are shared", len(lits))
		}
	}
}

func BenchmarkWrite(b *testing.B) {
	lits := skewed(rand.New(rand.NewSource(125)), 100, api.MaxBlock)
	b.SetBytes(api.MaxBlock)
	for b.Loop() {
		Write(lits, nil)
	}
}

func BenchmarkRead(b *testing.B) {
	section, _, _ := Write(skewed(rand.New(rand.NewSource(126)), 100, api.MaxBlock), nil)
	b.SetBytes(api.MaxBlock)
	for b.Loop() {
		Read(section, nil, api.MaxBlock)
	}
}
