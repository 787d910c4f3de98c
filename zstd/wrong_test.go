package zstd_test

import (
	"fmt"
	"math"
	"slices"
	"strings"
	"testing"

	"baler/api"
	"baler/zstd"
)

var allBudgets = []int{0, 1, -1, 1023, 1024, 1 << 24, 1<<24 + 1, math.MinInt, math.MaxInt}

// P15.1: nothing at all.
func TestNothing(t *testing.T) {
	for _, budget := range allBudgets {
		wants(t, "nil", nil, budget, refused(api.ErrTruncated, ""))
		wants(t, "empty", []byte{}, budget, refused(api.ErrTruncated, ""))
		if got := ask(nil, budget); !got.same(refused(api.ErrTruncated, "")) {
			t.Errorf("nil: %s", got.brief())
		}
	}
	if w, e := zstd.Window(nil); w != 0 || e != api.ErrTruncated {
		t.Errorf("Window(nil) = %d, %d", w, int(e))
	}
}

// P15.1: bit 3 of d is refused as d is read, whatever the other bits are; bit 4 says nothing.
func TestBits(t *testing.T) {
	for d := range 256 {
		b := append([]byte("\x28\xb5\x2f\xfd"), byte(d))
		want := refused(api.ErrTruncated, "")
		if d&8 != 0 {
			want = refused(api.ErrMalformed, "")
		}
		for _, budget := range allBudgets {
			wants(t, fmt.Sprintf("d %x", d), b, budget, want)
		}
		if d&8 != 0 {
			wants(t, fmt.Sprintf("d %x", d), append(b, make([]byte, 30)...), 1<<24, want)
		}
	}
	for _, fourth := range []bool{false, true} {
		s := shape{fourth: fourth, single: true, size: 3, sum: true}
		takes(t, "bit 4", s.frame([]byte("abc"), rawOf("abc")), []byte("abc"))
	}
}

// P15.1: blocks of kind 3, of any size, first or later, last or not.
func TestNoKind(t *testing.T) {
	s := windowAlone(10)
	for _, size := range []int{0, 1, 3, 1024, 1025, 1<<21 - 1} {
		l := laid{3, size, nil}
		wants(t, "kind 3", s.begun(rawOf("abc"), l), 1<<24, refused(api.ErrMalformed, "abc"))
		wants(t, "kind 3, the last", s.frame(nil, rawOf("abc"), l), 1<<24, refused(api.ErrMalformed, "abc"))
		wants(t, "kind 3, the first", s.frame(nil, l, rawOf("abc")), 1<<24, refused(api.ErrMalformed, ""))
		wants(t, "kind 3, cut", s.frame(nil, l)[:8], 1<<24, refused(api.ErrTruncated, ""))
	}
}

// P15.1: what a packed block is refused for, with the content of the blocks ahead as out.
func TestWrongPacked(t *testing.T) {
	text := abcd(1, 900)
	packed, w := litsOf(t, text, nil)
	again, _ := litsOf(t, text, w)
	none := stepsOf(t)
	one := stepsOf(t, api.Seq{Lits: 2, Match: 9, Back: 5})
	if again[0]%4 != 3 {
		t.Fatal("the literals do not lean on the weights ahead")
	}
	for what, l := range map[string]laid{
		"weights from ahead":              packedOf(again, none),
		"all tables from ahead":           packedOf(rawLits("abc"), leaning(t, one, 7)),
		"literals' table from ahead":      packedOf(rawLits("abc"), leaning(t, one, 1)),
		"back's table from ahead":         packedOf(rawLits("abc"), leaning(t, one, 2)),
		"match's table from ahead":        packedOf(rawLits("abc"), leaning(t, one, 4)),
		"no literals section":             packedOf([]byte{8}),
		"a literals section cut":          packedOf(rawLits("abc")[:4]),
		"a literals section's head cut":   packedOf([]byte{12, 0}),
		"packed literals cut":             packedOf(packed[:len(packed)-1]),
		"no sequences section":            packedOf(rawLits("abc")),
		"bytes behind no steps":           packedOf(rawLits("abc"), none, none),
		"a section of steps cut":          packedOf(rawLits("abc"), one[:len(one)-1]),
		"its kinds missing":               packedOf(rawLits("abc"), one[:1]),
		"a byte behind the steps":         packedOf(rawLits("abc"), one, []byte{1}),
		"one Lits more than literals":     packedOf(rawLits("a"), one),
		"no literals for Lits":            packedOf(rawLits(""), one),
		"no literals left for the second": packedOf(rawLits("abc"), stepsOf(t, api.Seq{Lits: 2, Match: 9, Back: 5}, api.Seq{Lits: 2, Match: 3, Back: 5})),
		"the first distance less 1":       packedOf(rawLits("abc"), stepsOf(t, api.Seq{Lits: 0, Match: 3, Back: 3})),
		"again less 1":                    packedOf(rawLits("abc"), stepsOf(t, api.Seq{Lits: 1, Match: 3, Back: 5}, api.Seq{Lits: 0, Match: 3, Back: 3}, api.Seq{Lits: 0, Match: 3, Back: 3})),
		"too far at the second":           packedOf(rawLits("abc"), stepsOf(t, api.Seq{Lits: 2, Match: 9, Back: 5}, api.Seq{Lits: 0, Match: 3, Back: 40})),
	} {
		s := windowAlone(10)
		wants(t, what, s.frame(nil, l), 1<<24, refused(api.ErrMalformed, ""))
		wants(t, what+", behind others", s.begun(rawOf("0123456789"), alikeOf('x', 3), l), 1<<24, refused(api.ErrMalformed, "0123456789xxx"))
		b := s.begun(rawOf("0123456789"), l)
		wants(t, what+", cut", b[:len(b)-1], 1<<24, refused(api.ErrTruncated, "0123456789"))
	}
	takes(t, "just enough literals", windowAlone(10).frame(nil, packedOf(rawLits("ab"), one)), []byte("ab"+"ababababa"))
}

// P15.1: a block that is refused leaves nothing of its beginning behind.
func TestNothingOfAWrongBlock(t *testing.T) {
	l := slices.Repeat([]api.Seq{{Lits: 1, Match: 3, Back: 5}}, 30)
	l[29].Lits = 2
	b := windowAlone(10).frame(nil, rawOf("ab"), packedOf(rawLits(strings.Repeat("l", 30)), stepsOf(t, l...)))
	wants(t, "the last step is wrong", b, 1<<24, refused(api.ErrMalformed, "ab"))
	for n := range len(b) - 1 {
		if got := ask(b[:n], 1<<24); got.e != api.ErrTruncated || len(got.out) > 2 {
			t.Errorf("%d bytes of it: %s", n, got.brief())
		}
	}
}

// P15.1: sums, each byte of which may be wrong; out is all of the content then.
func TestSums(t *testing.T) {
	for _, content := range []string{"", "a", "abc", strings.Repeat("many bytes of a content", 20)} {
		s := shape{window: 0, sum: true}
		b := s.frame([]byte(content), rawOf(content))
		takes(t, "a sum", b, []byte(content))
		for k := len(b) - 4; k < len(b); k++ {
			for _, change := range []byte{1, 0x80, 0xff} {
				c := slices.Clone(b)
				c[k] ^= change
				wants(t, fmt.Sprintf("byte %d of the sum", k-len(b)+4), c, 1<<24, refused(api.ErrMalformed, content))
			}
			wants(t, "a sum cut", b[:k], 1<<24, refused(api.ErrTruncated, content))
		}
		// Without that bit of d what stands there is behind the member.
		c := slices.Clone(b)
		c[4] &^= 4
		wants(t, "no sum", c, 1<<24, whole([]byte(content), len(b)-4))
	}
	known := []byte("\x28\xb5\x2f\xfd\x24\x03\x19\x00\x00abc\x99\x09\x77\xad")
	takes(t, "the sum of abc", known, []byte("abc"))
	for _, sum := range []string{"\xad\x77\x09\x99", "\xf5\x2c\xbc\x44", "\x44\xbc\x2c\xf5"} {
		wants(t, "other bytes of it", append(known[:12:12], sum...), 1<<24, refused(api.ErrMalformed, "abc"))
	}
}

// P15.1: sizes of 8 bytes, beyond an int, and such as have the content's size in their lower bytes.
func TestGreatSizes(t *testing.T) {
	for _, size := range []uint64{1<<24 + 1, 1<<32 + 3, 1<<48 + 3, 1 << 62, 1<<63 - 1, 1 << 63, 1<<63 + 3, 1<<64 - 1} {
		single := shape{form: 3, single: true, size: size}
		alone := shape{form: 3, window: 0, size: size}
		for _, budget := range []int{1 << 24, math.MaxInt, 0} {
			wants(t, "single", single.frame(nil, rawOf("abc")), budget, refused(api.ErrOverBudget, ""))
		}
		if w, e := zstd.Window(single.head()); w != 0 || e != api.ErrOverBudget {
			t.Errorf("size %d: %d, %d", size, w, int(e))
		}
		wants(t, "not single", alone.frame(nil, rawOf("abc")), 1<<24, refused(api.ErrMalformed, "abc"))
		wants(t, "not single, not the last", alone.begun(rawOf("abc")), 1<<24, refused(api.ErrTruncated, "abc"))
	}
}

// R5: of two faults in one call the one that is named first is told.
func TestTwoFaults(t *testing.T) {
	dictionary := shape{dict: 1, number: 7, window: 255}
	plain := windowAlone(10)
	wrong := packedOf([]byte{8})
	sized := shape{window: 0, form: 1, size: 300, sum: true}
	text := strings.Repeat("x", 299)
	for _, x := range []struct {
		what string
		b    []byte
		want answer
	}{
		{"no number, and cut", []byte("abc"), refused(api.ErrTruncated, "")},
		{"bit 3, a dictionary, a window too great", shape{third: true, dict: 1, number: 7, window: 255}.head(), refused(api.ErrMalformed, "")},
		{"bit 3, cut", shape{third: true, dict: 1}.head()[:5], refused(api.ErrMalformed, "")},
		{"a dictionary and a window too great", dictionary.head(), refused(api.ErrUnsupported, "")},
		{"a dictionary, and cut", dictionary.head()[:6], refused(api.ErrTruncated, "")},
		{"a window too great, and cut", shape{window: 255, form: 3}.head()[:10], refused(api.ErrTruncated, "")},
		{"a window too great, no blocks", shape{window: 255}.head(), refused(api.ErrOverBudget, "")},
		{"a window too great, wrong blocks", shape{window: 255}.frame(nil, laid{3, 9, nil}), refused(api.ErrOverBudget, "")},
		{"kind 3, its size too great, and cut", plain.begun(laid{3, 2000, nil}), refused(api.ErrMalformed, "")},
		{"a size too great, and cut", plain.begun(laid{0, 1025, nil}), refused(api.ErrMalformed, "")},
		{"wrong literals and wrong steps", plain.begun(packedOf([]byte{0x10, 'a'}, []byte{0xff})), refused(api.ErrMalformed, "")},
		{"a wrong block, then kind 3", plain.begun(rawOf("a"), wrong, laid{3, 0, nil}), refused(api.ErrMalformed, "a")},
		{"too short, and no sum", sized.frame(nil, alikeOf('x', 299))[:11], refused(api.ErrTruncated, "")},
		{"too short, and its sum cut", sized.frame(nil, alikeOf('x', 299))[:12], refused(api.ErrMalformed, text)},
		{"too short, and a wrong sum", sized.frame(nil, alikeOf('x', 299)), refused(api.ErrMalformed, text)},
		{"too long, and its sum cut", sized.frame(nil, alikeOf('x', 299), rawOf("yz"))[:17], refused(api.ErrMalformed, text)},
		{"too long, not the last, nothing behind", sized.begun(alikeOf('x', 299), rawOf("yz")), refused(api.ErrMalformed, text)},
		{"a wrong block, and too short", sized.frame(nil, alikeOf('x', 299), wrong), refused(api.ErrMalformed, text)},
	} {
		wants(t, x.what, x.b, 1<<24, x.want)
	}
}

// P15.3: the window, as far as the head goes; what stands behind the head does not count.
func TestWindow(t *testing.T) {
	for _, behind := range []string{"", "x", "\x07\x00\x00", "anything"} {
		for _, s := range slices.Concat(someShapes(3), someShapes(300), someShapes(70000)) {
			b := append(s.head(), behind...)
			want := 1 << 17
			if s.single {
				want = int(s.size)
			}
			if w, e := zstd.Window(b); w != want || e != api.OK {
				t.Errorf("% x: %d, %d; want %d", b, w, int(e), want)
			}
			for n := range len(s.head()) {
				if w, e := zstd.Window(b[:n]); w != 0 || e != api.ErrTruncated {
					t.Errorf("% x: %d, %d", b[:n], w, int(e))
				}
			}
		}
	}
	for which := range 16 {
		b := skippable(which, "skipped")
		for n := range len(b) + 1 {
			want := api.OK
			if n < 8 {
				want = api.ErrTruncated
			}
			if w, e := zstd.Window(b[:n]); w != 0 || e != want {
				t.Errorf("% x: %d, %d", b[:n], w, int(e))
			}
		}
	}
	for what, x := range map[string]struct {
		b    []byte
		want api.Errno
	}{
		"no number":             {[]byte("abcd"), api.ErrMalformed},
		"no number, cut":        {[]byte("abc"), api.ErrTruncated},
		"bit 3":                 {shape{third: true}.head(), api.ErrMalformed},
		"bit 3, cut":            {shape{third: true}.head()[:5], api.ErrMalformed},
		"a dictionary":          {shape{dict: 3, number: 1 << 31}.head(), api.ErrUnsupported},
		"a dictionary, and far": {shape{dict: 1, number: 1, window: 200}.head(), api.ErrUnsupported},
		"one eighth too far":    {shape{window: 113}.head(), api.ErrOverBudget},
		"a byte too far":        {shape{form: 2, single: true, size: 1<<24 + 1}.head(), api.ErrOverBudget},
	} {
		if w, e := zstd.Window(x.b); w != 0 || e != x.want {
			t.Errorf("%s: %d, %d; want %d", what, w, int(e), int(x.want))
		}
	}
}
