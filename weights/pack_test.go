package weights

import (
	"bytes"
	"math"
	"math/rand"
	"slices"
	"strings"
	"testing"

	"baler/api"
)

// unpacks asks for an unpacking, and looks if what was handed in, with the room behind it, stays as it is.
func unpacks(t *testing.T, weights []uint8, b []byte, n int) ([]byte, api.Errno) {
	t.Helper()
	roomW, roomB := weights[:cap(weights)], b[:cap(b)]
	keptW, keptB := slices.Clone(roomW), slices.Clone(roomB)
	text, e := Unpack(weights, b, n)
	if !bytes.Equal(roomW, keptW) || !bytes.Equal(roomB, keptB) {
		t.Fatal("Unpack has changed what it was handed")
	}
	if e != api.OK && len(text) != 0 {
		t.Fatalf("Unpack: %d bytes beside error %d", len(text), int(e))
	}
	return text, e
}

func packs(t *testing.T, weights []uint8, b []byte) ([]byte, api.Errno) {
	t.Helper()
	roomW, roomB := weights[:cap(weights)], b[:cap(b)]
	keptW, keptB := slices.Clone(roomW), slices.Clone(roomB)
	tail, e := Pack(weights, b)
	if !bytes.Equal(roomW, keptW) || !bytes.Equal(roomB, keptB) {
		t.Fatal("Pack has changed what it was handed")
	}
	if e != api.OK && len(tail) != 0 {
		t.Fatalf("Pack: %d bytes beside error %d", len(tail), int(e))
	}
	return tail, e
}

// checkPack packs a text, holds the tail against the model's, and unpacks it.
func checkPack(t *testing.T, weights []uint8, text []byte) {
	t.Helper()
	b, e := packs(t, weights, text)
	if e != api.OK || !bytes.Equal(b, packModel(t, weights, text)) {
		t.Fatalf("Pack(%v, %d bytes): %d, or another tail", weights, len(text), int(e))
	}
	own, e := unpacks(t, weights, b, len(text))
	if e != api.OK || !bytes.Equal(own, text) {
		t.Fatalf("Unpack(%v, %d bytes): %d, or another text", weights, len(text), int(e))
	}
	for _, n := range []int{len(text) - 1, len(text) + 1} {
		want := api.ErrMalformed
		if n < 0 || n > 131072 {
			want = api.ErrArg
		}
		if _, e := unpacks(t, weights, b, n); e != want {
			t.Fatalf("Unpack(%v, %d words, %d): %d", weights, len(text), n, int(e))
		}
	}
}

// P9.3, P9.4: the chapter's example, and words that were reckoned by hand.
func TestWordsByHand(t *testing.T) {
	for _, x := range []struct {
		weights []uint8
		words   string
	}{
		{[]uint8{1, 1, 2, 3}, "000 001 01 1"},
		{[]uint8{1, 1}, "0 1"},
		{[]uint8{0, 1, 0, 1}, "- 0 - 1"},
		{[]uint8{3, 2, 1, 1}, "1 01 000 001"},
		{[]uint8{2, 1, 2, 0, 1, 2}, "01 000 10 - 001 11"},
		{[]uint8{1, 1, 1, 1}, "00 01 10 11"},
		{[]uint8{4, 1, 3, 2, 1}, "1 0000 01 001 0001"},
		{[]uint8{1, 1, 2, 3, 4, 5, 6, 7, 8, 9, 10, 11}, "00000000000 00000000001 0000000001 000000001 00000001 0000001 000001 00001 0001 001 01 1"},
	} {
		for symbol, word := range strings.Fields(x.words) {
			if word == "-" {
				if _, e := packs(t, x.weights, []byte{byte(symbol)}); e != api.ErrArg {
					t.Errorf("%v: Pack(%d): %d", x.weights, symbol, int(e))
				}
				continue
			}
			want := tailOf(turned(word))
			b, e := packs(t, x.weights, []byte{byte(symbol)})
			if e != api.OK || !bytes.Equal(b, want) {
				t.Errorf("%v: Pack(%d) = % x, %d; want % x", x.weights, symbol, b, int(e), want)
			}
			text, e := unpacks(t, x.weights, want, 1)
			if e != api.OK || !bytes.Equal(text, []byte{byte(symbol)}) {
				t.Errorf("%v: Unpack(% x) = % x, %d", x.weights, want, text, int(e))
			}
		}
	}
	b, e := packs(t, []uint8{1, 1, 2, 3}, []byte{3, 2, 0})
	if e != api.OK || !bytes.Equal(b, []byte{0x68}) {
		t.Errorf("% x, %d", b, int(e))
	}
	// 01 001 1: put 1, then 001, then 01: 1 100 10 and the mark.
	text, e := unpacks(t, []uint8{1, 1, 2, 3}, []byte{0x53}, 3)
	if e != api.OK || !bytes.Equal(text, []byte{2, 1, 3}) {
		t.Errorf("% x, %d", text, int(e))
	}
}

// P9.3, P9.4: codes at the edges, texts of all lengths up to some.
func TestPackAtTheEdges(t *testing.T) {
	r := rand.New(rand.NewSource(97))
	for _, weights := range someCodes() {
		for n := range 40 {
			checkPack(t, weights, someText(r, weights, n))
		}
		checkPack(t, weights, someText(r, weights, 1000))
	}
}

// P9.3, P9.4: many codes.
func TestPackManyCodes(t *testing.T) {
	r := rand.New(rand.NewSource(98))
	for range 400 {
		m := 1 + r.Intn(11)
		weights := someCode(r, m+1+r.Intn(256-m), m)
		checkPack(t, weights, someText(r, weights, r.Intn(300)))
	}
}

// P9.3, P9.4: no text, and one of as many bytes as there may be.
func TestPackTheMost(t *testing.T) {
	r := rand.New(rand.NewSource(99))
	long := []uint8{1, 1, 2, 3, 4, 5, 6, 7, 8, 9, 10, 11}
	for _, weights := range [][]uint8{{1, 1}, {1, 1, 2, 3}, row(256, 1), long} {
		checkPack(t, weights, nil)
		checkPack(t, weights, []byte{})
		text := someText(r, weights, 131072)
		checkPack(t, weights, text)
		b, _ := Pack(weights, text)
		if _, e := unpacks(t, weights, b, 131073); e != api.ErrArg {
			t.Errorf("%d", int(e))
		}
		more := append(text, text[0])
		if _, e := packs(t, weights, more); e != api.ErrArg {
			t.Errorf("%d", int(e))
		}
		if _, e := unpacks(t, weights, packModel(t, weights, more), 131073); e != api.ErrArg {
			t.Errorf("%d", int(e))
		}
		if _, e := unpacks(t, weights, packModel(t, weights, more), 131072); e != api.ErrMalformed {
			t.Errorf("%d", int(e))
		}
	}
	// The longest tail that there is.
	checkPack(t, long, bytes.Repeat([]byte{0}, 131072))
	checkPack(t, long, bytes.Repeat([]byte{1}, 131072))
}

// P9.3: numbers of words that may not be, ahead of what b is.
func TestUnpackRefusesNumbers(t *testing.T) {
	weights := []uint8{1, 1, 2, 3}
	for _, n := range []int{math.MinInt, math.MinInt + 1, -131072, -2, -1, 131073, 1 << 32, math.MaxInt - 1, math.MaxInt} {
		for _, b := range [][]byte{nil, {0}, {1}, {0x68}} {
			if _, e := unpacks(t, weights, b, n); e != api.ErrArg {
				t.Errorf("Unpack(% x, %d): %d", b, n, int(e))
			}
		}
	}
}

// P9.3: what is no tail, and what has no words is not wanted either.
func TestUnpackRefusesNoTail(t *testing.T) {
	weights := []uint8{1, 1, 2, 3}
	for _, b := range [][]byte{nil, {}, {0}, {1, 0}, {0x68, 0}, {0, 0, 0}} {
		for _, n := range []int{0, 1, 3, 131072} {
			if _, e := unpacks(t, weights, b, n); e != api.ErrMalformed {
				t.Errorf("Unpack(% x, %d): %d", b, n, int(e))
			}
		}
	}
}

// P9.3: no words: the mark alone, and at the very beginning.
func TestUnpackNone(t *testing.T) {
	for _, weights := range someCodes() {
		text, e := unpacks(t, weights, []byte{1}, 0)
		if e != api.OK || len(text) != 0 {
			t.Errorf("% x, %d", text, int(e))
		}
		for _, b := range [][]byte{{2}, {3}, {0x80}, {0, 1}, {0xff, 1}} {
			if _, e := unpacks(t, weights, b, 0); e != api.ErrMalformed {
				t.Errorf("Unpack(% x, 0): %d", b, int(e))
			}
		}
		for _, n := range []int{1, 2, 131072} {
			if _, e := unpacks(t, weights, []byte{1}, n); e != api.ErrMalformed {
				t.Errorf("Unpack(01, %d): %d", n, int(e))
			}
		}
	}
}

// P9.3: the words end just at the beginning, a bit ahead of it, a bit beyond it.
func TestUnpackComesToTheBeginning(t *testing.T) {
	weights := []uint8{1, 1, 2, 3}
	for _, x := range []struct {
		row string // from the end on
		n   int
		e   api.Errno
	}{
		{"1 01 000", 3, api.OK},
		{"1 01 000 0", 3, api.ErrMalformed},
		{"1 01 000 1", 3, api.ErrMalformed},
		{"1 01 00", 3, api.ErrMalformed},
		{"1 01 0", 3, api.ErrMalformed},
		{"1 01 0", 2, api.ErrMalformed},
		{"1 01", 2, api.OK},
		{"1", 1, api.OK},
		{"0", 1, api.ErrMalformed},
		{"00", 1, api.ErrMalformed},
		{"1 1", 1, api.ErrMalformed},
		{"1 1 1 1 1 1 1 1 1", 9, api.OK},
		{"1 1 1 1 1 1 1 1 1", 8, api.ErrMalformed},
		{"1 1 1 1 1 1 1 1 1", 10, api.ErrMalformed},
		{"001 001 001 001 001", 5, api.OK},
		{"001 001 001 001 00", 5, api.ErrMalformed},
	} {
		b := tailOf(turned(strings.ReplaceAll(x.row, " ", "")))
		if text, e := unpacks(t, weights, b, x.n); e != x.e || len(text) > x.n {
			t.Errorf("%s, %d: % x, %d; want %d", x.row, x.n, text, int(e), int(x.e))
		}
	}
}

// P9.3, P9.5: whatever tail, it is unpacked as the model does it, and what is told is packed to just that tail.
func TestUnpackAsTheModel(t *testing.T) {
	r := rand.New(rand.NewSource(100))
	seen := map[api.Errno]int{}
	for range 1500 {
		m := 1 + r.Intn(11)
		weights := someCode(r, min(m+1+r.Intn(30), 256), m)
		b := make([]byte, r.Intn(6))
		r.Read(b)
		for n := range 20 {
			text, e := unpacks(t, weights, b, n)
			want, we := unpackModel(t, weights, b, n)
			if e != we || !bytes.Equal(text, want) {
				t.Fatalf("Unpack(%v, % x, %d) = % x, %d; want % x, %d", weights, b, n, text, int(e), want, int(we))
			}
			seen[e]++
			if e != api.OK {
				continue
			}
			if again, e := packs(t, weights, text); e != api.OK || !bytes.Equal(again, b) {
				t.Fatalf("Pack of Unpack(%v, % x, %d) = % x, %d", weights, b, n, again, int(e))
			}
		}
	}
	if seen[api.OK] < 200 || seen[api.ErrMalformed] < 200 {
		t.Errorf("answers: %v", seen)
	}
}

// P9.4: a byte without a word, and one beyond the weights, wherever they stand.
func TestPackRefusesBytes(t *testing.T) {
	weights := []uint8{1, 0, 1, 0, 0, 2}
	for x := range 256 {
		for at := range 5 {
			text := []byte{0, 2, 5, 5, 2}
			text[at] = byte(x)
			want := api.OK
			if x >= len(weights) || weights[x] == 0 {
				want = api.ErrArg
			}
			if _, e := packs(t, weights, text); e != want {
				t.Errorf("Pack(% x): %d; want %d", text, int(e), int(want))
			}
		}
	}
	if _, e := packs(t, weights, append(make([]byte, 131072), 1)); e != api.ErrArg {
		t.Errorf("%d", int(e))
	}
}

// R3: what is told is new memory.
func TestPackGivesNewMemory(t *testing.T) {
	weights, text := []uint8{1, 1, 2, 3}, []byte{3, 2, 0, 1, 1, 1, 2}
	one, _ := Pack(weights, text)
	two, _ := Pack(weights, text)
	kept := slices.Clone(two)
	clear(one[:cap(one)])
	if !bytes.Equal(two, kept) {
		t.Error("Pack shares its answers")
	}
	own, _ := Unpack(weights, two, len(text))
	other, _ := Unpack(weights, two, len(text))
	clear(own[:cap(own)])
	clear(two)
	if !bytes.Equal(other, text) {
		t.Error("Unpack shares its answers")
	}
}

func BenchmarkUnpack(b *testing.B) {
	weights := someCode(rand.New(rand.NewSource(1)), 256, 11)
	text := someText(rand.New(rand.NewSource(2)), weights, 131072)
	tail, _ := Pack(weights, text)
	b.SetBytes(131072)
	for range b.N {
		Unpack(weights, tail, len(text))
	}
}

func BenchmarkPack(b *testing.B) {
	weights := someCode(rand.New(rand.NewSource(1)), 256, 11)
	text := someText(rand.New(rand.NewSource(2)), weights, 131072)
	b.SetBytes(131072)
	for range b.N {
		Pack(weights, text)
	}
}
