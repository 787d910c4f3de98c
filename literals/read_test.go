package literals

import (
	"bytes"
	"math"
	"math/rand"
	"slices"
	"testing"

	"baler/api"
	"baler/states"
	"baler/weights"
)

// reads asks for a section, and looks if what was handed in, with the room behind it, stays as it is.
func reads(t *testing.T, b []byte, w []uint8, most int) answer {
	t.Helper()
	roomB, roomW := b[:cap(b)], w[:cap(w)]
	keptB, keptW := slices.Clone(roomB), slices.Clone(roomW)
	var a answer
	a.lits, a.next, a.used, a.e = Read(b, w, most)
	if !bytes.Equal(roomB, keptB) || !bytes.Equal(roomW, keptW) {
		t.Fatal("Read has changed what it was handed")
	}
	if a.e != api.OK && (len(a.lits) != 0 || len(a.next) != 0 || a.used != 0) {
		t.Fatalf("Read answers %d and more", int(a.e))
	}
	if own := readModel(b, w, most); !a.same(own) {
		t.Fatalf("Read(% x.., most %d): %d literals, %v, %d, error %d; by the model %d, %v, %d, %d", b[:min(len(b), 20)], most, len(a.lits), a.next, a.used, int(a.e), len(own.lits), own.next, own.used, int(own.e))
	}
	return a
}

// refuses looks for an error.
func refuses(t *testing.T, name string, b []byte, w []uint8, most int, e api.Errno) {
	t.Helper()
	if a := reads(t, b, w, most); a.e != e {
		t.Errorf("%s: error %d, not %d", name, int(a.e), int(e))
	}
}

// takes looks for literals and weights, of all of b.
func takes(t *testing.T, name string, b []byte, w []uint8, most int, lits []byte, next []uint8) {
	t.Helper()
	if a := reads(t, b, w, most); !a.same(answer{lits: lits, next: next, used: len(b)}) {
		t.Errorf("%s: %d literals, %v, %d, error %d", name, len(a.lits), a.next, a.used, int(a.e))
	}
}

// cutsAnywhere looks that a section that was taken is truncated at each of its places, but not with bytes behind it.
func cutsAnywhere(t *testing.T, name string, b []byte, w []uint8, most int) {
	t.Helper()
	all := reads(t, b, w, most)
	if all.e != api.OK || all.used != len(b) {
		t.Fatalf("%s: error %d, %d of %d bytes", name, int(all.e), all.used, len(b))
	}
	for n := range b {
		if a := reads(t, b[:n], w, most); a.e != api.ErrTruncated {
			t.Errorf("%s: of %d bytes the first %d: error %d", name, len(b), n, int(a.e))
		}
	}
	for _, behind := range [][]byte{{0}, {1}, {0xff, 0xff}, bytes.Repeat([]byte{0x80}, 300)} {
		if a := reads(t, slices.Concat(b, behind), w, most); !a.same(all) {
			t.Errorf("%s: % x behind it changes it", name, behind[:1])
		}
	}
}

// P11.1: the chapter's examples.
func TestReadExamples(t *testing.T) {
	takes(t, "abc", []byte{0x18, 'a', 'b', 'c'}, nil, 9, []byte("abc"), nil)
	takes(t, "aaaaa", []byte{0x29, 'a'}, nil, 9, []byte("aaaaa"), nil)
	takes(t, "none", []byte{0}, nil, 9, nil, nil)
	refuses(t, "ab", []byte{0x18, 'a', 'b'}, nil, 9, api.ErrTruncated)
	refuses(t, "kind 3", []byte{3, 0, 0}, nil, 9, api.ErrMalformed)
	// Of chapter 9: weights 1 1 2 3, of which 3, 2 and 0 are packed as 68.
	takes(t, "kind 2", []byte{0x32, 0, 1, 0x82, 0x11, 0x20, 0x68}, nil, 9, []byte{3, 2, 0}, []uint8{1, 1, 2, 3})
	takes(t, "kind 3, weights", []byte{0x33, 0x40, 0, 0x68}, []uint8{1, 1, 2, 3}, 9, []byte{3, 2, 0}, []uint8{1, 1, 2, 3})
}

// P11.1: kinds 0 and 1 in each form: none, one, some, and as many as there is room for; the weights stay as they were, a code or not.
func TestReadPlain(t *testing.T) {
	r := rand.New(rand.NewSource(111))
	for form, sizes := range [4][]int{{0, 1, 2, 3, 30, 31}, {0, 1, 31, 32, 4094, 4095}, {0, 1, 2, 3, 30, 31}, {0, 1, 4095, 4096, 65536, 131071, 131072}} {
		for _, size := range sizes {
			for _, w := range append(noCodes(), steep()) {
				lits := textOf(r, 256, size)
				takes(t, "raw", sectionOf(t, 0, form, size, lits), w, size, lits, w)
				lits = bytes.Repeat([]byte{byte(r.Intn(256))}, size+1)
				takes(t, "one byte", sectionOf(t, 1, form, size, lits[:1]), w, size, lits[:size], w)
			}
		}
	}
}

// P11.1: the sizes of both kinds whose head is one byte: each has its own.
func TestReadEachHeadOfOneByte(t *testing.T) {
	for x := range 256 {
		if x%4 > 1 || x/4%2 == 1 {
			continue
		}
		lits := bytes.Repeat([]byte{'x'}, x/8)
		if x%4 == 0 {
			takes(t, "raw", append([]byte{byte(x)}, lits...), nil, 31, lits, nil)
		} else {
			takes(t, "one byte", []byte{byte(x), 'x'}, nil, 31, lits, nil)
		}
	}
}

// P11.1: kinds 2 and 3 in each form, with codes of both kinds of description; the weights of kind 2 hold behind it.
func TestReadPacked(t *testing.T) {
	r := rand.New(rand.NewSource(112))
	old := []uint8{0, 0, 1, 1}
	for _, w := range [][]uint8{{1, 1}, {1, 1, 2, 3}, steep(), flat(64), flat(256)} {
		for form, sizes := range [4][]int{{0, 1, 2, 3, 4, 5, 100, 700}, {0, 3, 4, 6, 7, 8, 9, 100, 700}, {0, 3, 4, 1023, 1024, 5000}, {0, 3, 4, 16383, 16384, 70000}} {
			for _, size := range sizes {
				lits := textOf(r, len(w), size)
				takes(t, "kind 3", packedSection(t, 3, form, w, lits), w, size, lits, w)
				if form < 2 && size == 700 && len(w) > 12 {
					lits = lits[:500]
				}
				takes(t, "kind 2", packedSection(t, 2, form, w, lits), old, size, lits, w)
				takes(t, "kind 2", packedSection(t, 2, form, w, lits), nil, api.MaxBlock, lits, w)
			}
		}
	}
}

// P11.1: kind 2 needs no weights that make a code, and is not minded by any.
func TestReadPackedWithoutWeights(t *testing.T) {
	lits := []byte{3, 2, 0, 1, 1, 3}
	for _, w := range append(noCodes(), steep()) {
		for form := range 4 {
			takes(t, "kind 2", packedSection(t, 2, form, []uint8{1, 1, 2, 3}, lits), w, 6, lits, []uint8{1, 1, 2, 3})
		}
	}
}

// P11.1: kind 3 without weights that make a code; no literals need them too.
func TestReadAheadWithoutWeights(t *testing.T) {
	for _, w := range noCodes() {
		for form := range 4 {
			for _, lits := range [][]byte{nil, {0, 0, 0}, {1, 1, 0, 0, 1, 0}} {
				refuses(t, "kind 3", packedSection(t, 3, form, []uint8{1, 1}, lits), w, 9, api.ErrMalformed)
			}
		}
	}
}

// P11.1: the greatest sizes and packed sizes that a form of packed literals has room for.
func TestReadGreatestPacked(t *testing.T) {
	w := steep()
	for form, c := range [4]struct{ bits, most int }{{10, 1023}, {10, 1023}, {14, 16383}, {18, 131072}} {
		long := bytes.Repeat([]byte{11}, c.most)
		takes(t, "as many as there is room for", packedSection(t, 3, form, w, long), w, c.most, long, w)
		if form == 3 {
			continue
		}
		// As many bits as there is room for: a row less its mark, of literals of 11 bits and of one bit.
		most := 1<<c.bits - 1
		var body, lits []byte
		if form == 0 {
			lits = filled(8*most - 1)
			body = packedBy(t, w, lits)
		} else {
			body, lits = fourFilled(t, w, most)
		}
		if len(body) != most {
			t.Fatalf("form %d: %d packed bytes", form, len(body))
		}
		takes(t, "as many packed bytes as there is room for", sectionOf(t, 3, form, len(lits), body), w, c.most, lits, w)
	}
	// More packed bytes than a block has: nothing forbids them.
	long := make([]byte, api.MaxBlock)
	b := packedSection(t, 3, 3, w, long)
	if len(b) < 180000 {
		t.Fatal(len(b))
	}
	takes(t, "many packed bytes", b, w, api.MaxBlock, long, w)
	// A row of as many bytes as its number has room for holds too many bits for its literals, and is cut right.
	rows := lengthsOf(65535, 65535, 65535)
	b = sectionOf(t, 3, 3, api.MaxBlock, rows, bytes.Repeat([]byte{0xff}, 1<<18-1-6))
	refuses(t, "the most packed bytes", b, w, api.MaxBlock, api.ErrMalformed)
	refuses(t, "the most packed bytes but one", b[:len(b)-1], w, api.MaxBlock, api.ErrTruncated)
}

// filled gives literals whose words by steep have just so many bits.
func filled(bits int) []byte {
	return append(make([]byte, bits/11), bytes.Repeat([]byte{11}, bits%11)...)
}

// fourFilled gives four rows of so many bytes in all, and the literals, of which each row has as many.
func fourFilled(t *testing.T, w []uint8, most int) (body, lits []byte) {
	t.Helper()
	left := most - 6
	each := left / 4
	var tails [4][]byte
	share := len(filled(8*(left-3*each)-1)) + 11
	for k := range tails {
		bits := 8*each - 1
		if k == 3 {
			bits = 8*(left-3*each) - 1
		}
		part := spread(share, bits)
		lits = append(lits, part...)
		tails[k] = packedBy(t, w, part)
	}
	return fourOf(tails), lits
}

// spread gives n literals whose words by steep have just so many bits in all.
func spread(n, bits int) []byte {
	part := bytes.Repeat([]byte{11}, n)
	for k, left := 0, bits-n; left > 0; k++ {
		more := min(left, 10)
		part[k] = byte(11 - more)
		left -= more
	}
	return part
}

// P11.1: as many bits in a head as there is room for, and the next one begins the next form: each size is told apart.
func TestReadSizesOfHeads(t *testing.T) {
	for kind := range 4 {
		for form := range 4 {
			bits := table(kind, form).bits
			for k := range bits {
				size := 1 << k
				if size > api.MaxBlock {
					continue
				}
				if !isPacked(kind) {
					takes(t, "one size", sectionOf(t, kind, form, size, bytes.Repeat([]byte{7}, []int{size, 1}[kind])), nil, size, bytes.Repeat([]byte{7}, size), nil)
					refuses(t, "one less", sectionOf(t, kind, form, size, []byte{7}), nil, size-1, api.ErrMalformed)
					continue
				}
				// Of packed ones the packed size is seen by where the section is cut off.
				b := append(headOf(t, kind, form, 0, size), make([]byte, size)...)
				refuses(t, "one packed size", b, nil, 0, api.ErrMalformed)
				refuses(t, "one packed size, cut", b[:len(b)-1], nil, 0, api.ErrTruncated)
				refuses(t, "one size, one less", headOf(t, kind, form, size, 0), nil, size-1, api.ErrMalformed)
			}
		}
	}
}

// P11.1: most of just the size, one less, none; and what it may not be, ahead of all else.
func TestReadMost(t *testing.T) {
	w := []uint8{1, 1, 2, 3}
	lits := []byte{3, 2, 0, 1, 1, 3, 3, 3, 2}
	sections := [][]byte{
		nil, {0}, {1}, {3, 0, 0},
		sectionOf(t, 0, 0, 9, lits), sectionOf(t, 0, 1, 9, lits), sectionOf(t, 0, 3, 9, lits), sectionOf(t, 1, 0, 9, []byte{7}),
	}
	for form := range 4 {
		sections = append(sections, packedSection(t, 2, form, w, lits), packedSection(t, 3, form, w, lits))
	}
	for k, b := range sections {
		for _, most := range []int{-1, math.MinInt, api.MaxBlock + 1, math.MaxInt} {
			refuses(t, "most", b, w, most, api.ErrArg)
			refuses(t, "most", b, nil, most, api.ErrArg)
		}
		if k < 4 {
			continue
		}
		for _, most := range []int{9, 10, api.MaxBlock} {
			if a := reads(t, b, w, most); a.e != api.OK || len(a.lits) != 9 {
				t.Errorf("section %d, most %d: error %d", k, most, int(a.e))
			}
		}
		for _, most := range []int{0, 1, 8} {
			refuses(t, "most below the size", b, w, most, api.ErrMalformed)
		}
	}
	takes(t, "none of none", []byte{0}, nil, 0, nil, nil)
	takes(t, "one byte, no times", []byte{1, 7}, nil, 0, nil, nil)
	takes(t, "no packed one", sectionOf(t, 3, 0, 0, []byte{1}), w, 0, nil, w)
	takes(t, "no packed one in four rows", sectionOf(t, 3, 1, 0, fourOf([4][]byte{{1}, {1}, {1}, {1}})), w, 0, nil, w)
}

// P11.1: just MaxBlock literals, and one more.
func TestReadMaxBlock(t *testing.T) {
	lits := make([]byte, api.MaxBlock+1)
	takes(t, "raw", sectionOf(t, 0, 3, api.MaxBlock, lits[1:]), nil, api.MaxBlock, lits[1:], nil)
	refuses(t, "raw", sectionOf(t, 0, 3, api.MaxBlock+1, lits), nil, api.MaxBlock, api.ErrMalformed)
	takes(t, "one byte", sectionOf(t, 1, 3, api.MaxBlock, lits[:1]), nil, api.MaxBlock, lits[1:], nil)
	refuses(t, "one byte", sectionOf(t, 1, 3, api.MaxBlock+1, lits[:1]), nil, api.MaxBlock, api.ErrMalformed)
	for _, kind := range []int{2, 3} {
		w := []uint8{1, 1}
		takes(t, "packed", packedSection(t, kind, 3, w, lits[1:]), w, api.MaxBlock, lits[1:], w)
		refuses(t, "packed", headOf(t, kind, 3, api.MaxBlock+1, 0), w, api.MaxBlock, api.ErrMalformed)
	}
}

// P11.1: sections of each kind and form that end at each of their places; and heads alone.
func TestReadCut(t *testing.T) {
	w := []uint8{1, 1, 2, 3}
	lits := []byte{3, 2, 0, 1, 1, 3, 3, 3, 2}
	for form := range 4 {
		cutsAnywhere(t, "raw", sectionOf(t, 0, form, 9, lits), nil, 9)
		cutsAnywhere(t, "one byte", sectionOf(t, 1, form, 9, []byte{7}), nil, 9)
		cutsAnywhere(t, "one byte, no times", sectionOf(t, 1, form, 0, []byte{7}), nil, 9)
		cutsAnywhere(t, "kind 2", packedSection(t, 2, form, w, lits), nil, 9)
		cutsAnywhere(t, "kind 3", packedSection(t, 3, form, w, lits), w, 9)
		cutsAnywhere(t, "kind 3, none", packedSection(t, 3, form, w, nil), w, 9)
	}
	refuses(t, "nil", nil, w, 9, api.ErrTruncated)
	refuses(t, "empty", []byte{}, w, 9, api.ErrTruncated)
	for kind := range 4 {
		for form := range 4 {
			b := headOf(t, kind, form, 31, 0)
			for n := range b {
				refuses(t, "a head that ends", b[:n], w, 31, api.ErrTruncated)
				refuses(t, "a head that ends", b[:n], nil, 0, api.ErrTruncated)
			}
			if !isPacked(kind) {
				refuses(t, "a head alone", b, w, 31, api.ErrTruncated)
			}
		}
	}
}

// P11.1: a size above most is told ahead of an end that comes too early, but not ahead of the head's end.
func TestReadSizeAheadOfEnd(t *testing.T) {
	for kind := range 4 {
		for form := range 4 {
			packedSize := 0
			if isPacked(kind) {
				packedSize = 900
			}
			b := headOf(t, kind, form, 30, packedSize)
			for n := range b {
				refuses(t, "size above most, head cut", b[:n], nil, 29, api.ErrTruncated)
			}
			refuses(t, "size above most, section cut", b, nil, 29, api.ErrMalformed)
			refuses(t, "section cut", b, nil, 30, api.ErrTruncated)
		}
	}
}

// P11.1: an end that comes too early is told ahead of all that is wrong in what is packed.
func TestReadEndAheadOfRows(t *testing.T) {
	good, w := []byte{1, 0, 1, 1, 0, 0}, []uint8{1, 1}
	for name, c := range map[string]struct {
		kind, form, size int
		body             []byte
		w                []uint8
	}{
		"no weights":            {3, 0, 6, packedBy(t, w, good), nil},
		"no weights, four rows": {3, 1, 6, rowsOf(t, w, 1, good), []uint8{1}},
		"a refused description": {2, 0, 6, slices.Concat([]byte{0x81, 0}, packedBy(t, w, good)), w},
		"a description cut":     {2, 0, 6, []byte{0x82, 0x11}, w},
		"five bytes":            {3, 1, 6, []byte{1, 0, 1, 0, 1}, w},
		"sizes above what left": {3, 1, 6, slices.Concat(lengthsOf(9, 9, 9), make([]byte, 5)), w},
		"three times above":     {3, 1, 5, rowsOf(t, w, 1, good[:5]), w},
		"no mark":               {3, 0, 6, []byte{0}, w},
		"bits that are left":    {3, 0, 5, packedBy(t, w, good), w},
		"bits that are wanting": {3, 0, 7, packedBy(t, w, good), w},
	} {
		b := sectionOf(t, c.kind, c.form, c.size, c.body)
		refuses(t, name, b, c.w, 9, api.ErrMalformed)
		for n := range b {
			refuses(t, name+", cut", b[:n], c.w, 9, api.ErrTruncated)
		}
		refuses(t, name+", size above most", b, c.w, c.size-1, api.ErrMalformed)
		refuses(t, name+", most above all", b, c.w, api.MaxBlock+1, api.ErrArg)
	}
}

// byStates lays a description by a table of states of two weights, 0 and 1, and a tail.
func byStates(t *testing.T, zeros, ones int16, tail ...byte) []byte {
	t.Helper()
	table, e := states.Write([]int16{zeros, ones}, 5)
	if e != api.OK {
		t.Fatalf("%d and %d make no table", zeros, ones)
	}
	return slices.Concat([]byte{byte(len(table) + len(tail))}, table, tail)
}

// P11.1: descriptions that are refused, in each way that chapter 9 has, and one that is longer than the packed bytes.
func TestReadRefusedDescription(t *testing.T) {
	for name, b := range map[string][]byte{
		"none":                           {},
		"of four bits, cut":              {0x82, 0x11},
		"of 128 weights, cut":            append([]byte{0xff}, make([]byte, 63)...),
		"of states, cut":                 {5, 1, 2, 3, 4},
		"of states, no bytes":            {0},
		"a sum of 0":                     {0x81, 0},
		"no power of 2 is wanting":       {0x81, 0x13},
		"a weight above 11":              {0x81, 0xc1},
		"no weight of 1":                 {0x81, 0x22},
		"a sum above 2^11 with the last": {0x82, 0xbb, 0xb0},
		"a table that is none":           {3, 0xff, 0xff, 0xff},
		"a table, and no tail":           byStates(t, 16, 16),
		"a table, and no mark":           byStates(t, 16, 16, 1, 0),
		"a table, and no second state":   byStates(t, 16, 16, 1),
		"more than 255 weights":          byStates(t, 1, 31, bytes.Repeat([]byte{0x55}, 100)...),
	} {
		if _, _, e := weights.Read(b); e == api.OK {
			t.Fatalf("%s: a description", name)
		}
		for form := range 4 {
			refuses(t, name, sectionOf(t, 2, form, 0, b), []uint8{1, 1}, 9, api.ErrMalformed)
			// The bytes behind the section are not its own: a description must not reach into them.
			reach := slices.Concat(sectionOf(t, 2, form, 0, b), []byte{0x20, 1, 0, 1, 0, 1, 0}, bytes.Repeat([]byte{1}, 200))
			refuses(t, name+", bytes behind", reach, []uint8{1, 1}, 9, api.ErrMalformed)
		}
	}
	// A description that just fills the packed bytes leaves none for the rows.
	for form := range 4 {
		refuses(t, "no row", sectionOf(t, 2, form, 0, []byte{0x80, 0x10}), nil, 9, api.ErrMalformed)
	}
	takes(t, "a row of none", sectionOf(t, 2, 0, 0, []byte{0x80, 0x10, 1}), nil, 9, nil, []uint8{1, 1})
}

// P11.1: sizes of 0 to 24 in four rows: those of which three rows have more are refused, however the rows are laid.
func TestReadSmallSizesInFourRows(t *testing.T) {
	w := []uint8{1, 1, 2}
	for size := range 25 {
		lits := []byte{0, 1, 2, 2, 1, 0, 1, 1, 2, 0, 2, 2, 0, 1, 2, 1, 2, 0, 0, 2, 1, 1, 2, 0}[:size]
		for _, kind := range []int{2, 3} {
			for form := 1; form < 4; form++ {
				b := packedSection(t, kind, form, w, lits)
				if size == 1 || size == 2 || size == 5 {
					refuses(t, "three rows have more", b, w, size, api.ErrMalformed)
				} else {
					takes(t, "four rows", b, w, size, lits, w)
				}
			}
		}
	}
}

// P11.1: fewer than six bytes for the sizes, and just six; kind 2 has them behind its description.
func TestReadSizesOfRows(t *testing.T) {
	w := []uint8{1, 1}
	for n := range 11 {
		for form := 1; form < 4; form++ {
			body := append(lengthsOf(1, 1, 1), 1, 1, 1, 1)[:n]
			b, c := sectionOf(t, 3, form, 0, body), sectionOf(t, 2, form, 0, []byte{0x80, 0x10}, body)
			if n < 10 {
				refuses(t, "kind 3", b, w, 9, api.ErrMalformed)
				refuses(t, "kind 2", c, w, 9, api.ErrMalformed)
				// What is wanting stands behind the section.
				refuses(t, "kind 3, bytes behind", slices.Concat(b, []byte{1, 1, 1, 1, 1, 1}), w, 9, api.ErrMalformed)
			} else {
				takes(t, "kind 3", b, w, 9, nil, w)
				takes(t, "kind 2", c, nil, 9, nil, w)
			}
		}
	}
	refuses(t, "six bytes of 0", sectionOf(t, 3, 1, 0, make([]byte, 6)), w, 9, api.ErrMalformed)
}

// P11.1: three sizes that come to less than what is left, to just that and to more, at each of the three.
func TestReadThreeSizes(t *testing.T) {
	w := []uint8{1, 1, 2, 3}
	lits := []byte{0, 1, 0, 1, 0, 1, 0, 1, 0}
	tails := tailsOf(t, w, lits)
	if len(tails[3]) != 1 {
		t.Fatal("the fourth row has literals")
	}
	for form := 1; form < 4; form++ {
		takes(t, "the fourth has one byte", sectionOf(t, 3, form, 9, fourOf(tails)), w, 9, lits, w)
		for k := range 3 {
			sizes := [3]int{len(tails[0]), len(tails[1]), len(tails[2])}
			for _, more := range []int{1, 2, 255, 256, 65535 - sizes[k]} {
				long := sizes
				long[k] += more
				body := slices.Concat(lengthsOf(long[0], long[1], long[2]), tails[0], tails[1], tails[2], tails[3])
				refuses(t, "more", sectionOf(t, 3, form, 9, body), w, 9, api.ErrMalformed)
				refuses(t, "more, bytes behind", append(sectionOf(t, 3, form, 9, body), make([]byte, 300)...), w, 9, api.ErrMalformed)
			}
		}
		refuses(t, "the most", sectionOf(t, 3, form, 9, bytes.Repeat([]byte{0xff}, 200)), w, 9, api.ErrMalformed)
	}
	// Long rows: both bytes of their sizes count, the lowest first.
	long := bytes.Repeat(lits, 400)
	b := packedSection(t, 3, 2, w, long)
	if b[4] == b[5] || b[5] == 0 {
		t.Fatalf("% x", b[:10])
	}
	takes(t, "long rows", b, w, len(long), long, w)
	b[4], b[5] = b[5], b[4]
	refuses(t, "the bytes of a size, changed over", b, w, len(long), api.ErrMalformed)
}

// P11.1: rows that are not read, each of the four, and a single one: no bytes, no mark, bits that are left, bits that are wanting.
func TestReadWrongRows(t *testing.T) {
	w := []uint8{1, 1, 2, 3}
	lits := []byte{0, 1, 2, 3, 3, 2, 1, 0}
	tails := tailsOf(t, w, lits)
	for name, change := range map[string]func(tail []byte) []byte{
		"no bytes":              func([]byte) []byte { return nil },
		"a byte of 0":           func([]byte) []byte { return []byte{0} },
		"no mark":               func(tail []byte) []byte { return append(slices.Clone(tail), 0) },
		"no literals":           func([]byte) []byte { return []byte{1} },
		"bits that are left":    func(tail []byte) []byte { return append([]byte{0}, tail...) },
		"one literal more":      func([]byte) []byte { return packedBy(t, w, []byte{3, 3, 3}) },
		"bits that are wanting": func([]byte) []byte { return packedBy(t, w, []byte{3}) },
	} {
		for k := range 4 {
			wrong := tails
			wrong[k] = change(wrong[k])
			for form := 1; form < 4; form++ {
				refuses(t, name, sectionOf(t, 3, form, 8, fourOf(wrong)), w, 9, api.ErrMalformed)
				refuses(t, name, sectionOf(t, 2, form, 8, descriptionOf(t, w), fourOf(wrong)), nil, 9, api.ErrMalformed)
			}
		}
		one := change(packedBy(t, w, lits[:2]))
		refuses(t, name, sectionOf(t, 3, 0, 2, one), w, 9, api.ErrMalformed)
		refuses(t, name, sectionOf(t, 2, 0, 2, descriptionOf(t, w), one), nil, 9, api.ErrMalformed)
	}
	for form := 1; form < 4; form++ {
		takes(t, "right rows", sectionOf(t, 3, form, 8, fourOf(tails)), w, 9, lits, w)
	}
}

// P11.1: sections with a byte changed, and bytes that come as they will, against the model.
func TestReadWhatever(t *testing.T) {
	r := rand.New(rand.NewSource(113))
	taken := 0
	for range 30000 {
		w := [][]uint8{nil, {1}, {1, 1}, {1, 1, 2, 3}, steep(), flat(16)}[r.Intn(6)]
		b := make([]byte, r.Intn(40))
		r.Read(b)
		if code := [][]uint8{{1, 1}, {1, 1, 2, 3}, steep()}[r.Intn(3)]; r.Intn(3) > 0 {
			b = packedSection(t, 2+r.Intn(2), r.Intn(4), code, textOf(r, len(code), r.Intn(60)))
			for range r.Intn(3) {
				b[r.Intn(len(b))] ^= 1 << r.Intn(8)
			}
		}
		if a := reads(t, b, w, r.Intn(100)); a.e == api.OK {
			taken++
		}
	}
	if taken < 1000 {
		t.Errorf("%d of them were taken", taken)
	}
}

// R3: nothing that was handed in is kept, and answers share nothing.
func TestReadGivesNewMemory(t *testing.T) {
	w := []uint8{1, 1, 2, 3}
	lits := []byte{3, 2, 0, 1, 1, 3, 3, 3, 2}
	sections := [][]byte{sectionOf(t, 0, 0, 9, lits), sectionOf(t, 1, 0, 9, []byte{7}), sectionOf(t, 1, 0, 1, []byte{7})}
	for form := range 4 {
		sections = append(sections, packedSection(t, 2, form, w, lits), packedSection(t, 3, form, w, lits))
	}
	for k, b := range sections {
		ownB, ownW := slices.Clone(b), slices.Clone(w)
		one, two := reads(t, ownB, ownW, 9), reads(t, ownB, ownW, 9)
		kept := answer{lits: slices.Clone(one.lits), next: slices.Clone(one.next), used: one.used}
		spoil(ownB)
		spoil(ownW)
		if !one.same(kept) || !two.same(kept) {
			t.Errorf("section %d: what was handed in is kept", k)
		}
		spoil(one.lits)
		if !two.same(kept) || !bytes.Equal(one.next, kept.next) {
			t.Errorf("section %d: literals are shared", k)
		}
		spoil(one.next)
		if !two.same(kept) || !reads(t, b, w, 9).same(kept) {
			t.Errorf("section %d: weights are shared", k)
		}
	}
}

// spoil writes into all the room that a list has.
func spoil(b []byte) {
	for k := range b[:cap(b)] {
		b[:cap(b)][k] = 0xee
	}
}
