package ranges

import (
	"bytes"
	"math"
	"math/rand"
	"reflect"
	"slices"
	"testing"

	"baler/api"
)

// beginning gives the bytes whose code is this one.
func beginning(code uint32) []byte {
	return []byte{0, byte(code >> 24), byte(code >> 16), byte(code >> 8), byte(code)}
}

// P10.1
func TestNewDecoderRefuses(t *testing.T) {
	for _, b := range [][]byte{nil, {}, {0}, {1}, {0, 0}, {255, 0, 0}, {0, 0, 0, 0}, {1, 0, 0, 0}, {255, 255, 255, 255}} {
		if d, e := NewDecoder(b); d != nil || e != api.ErrTruncated {
			t.Errorf("NewDecoder(% x) = %v, %v", b, d, e)
		}
	}
	for first := 1; first < 256; first++ {
		for _, n := range []int{5, 6, 100} {
			b := make([]byte, n)
			b[0] = byte(first)
			if d, e := NewDecoder(b); d != nil || e != api.ErrMalformed {
				t.Errorf("NewDecoder of first byte %d and %d bytes = %v, %v", first, n, d, e)
			}
		}
	}
	// Within the length: the room behind does not count.
	if d, e := NewDecoder(make([]byte, 4, 9)); d != nil || e != api.ErrTruncated {
		t.Errorf("NewDecoder of 4 bytes with room = %v, %v", d, e)
	}
}

// P10.1: the code is the next 4 bytes, the greatest first.
func TestNewDecoderBegins(t *testing.T) {
	for _, code := range []uint32{0, 1, 0x12345678, 0x80000000, 0x7fffffff, math.MaxUint32} {
		for _, behind := range []int{0, 1, 7} {
			d := open(t, append(beginning(code), make([]byte, behind)...)...)
			if d.span != math.MaxUint32 || d.code != code || len(d.rest) != behind || d.wanting {
				t.Errorf("code %#x: %+v", code, d)
			}
		}
	}
	d := open(t, 0, 0x12, 0x34, 0x56, 0x78, 0x9a, 0xbc, 0xde, 0xf0)
	m := newDecoderModel([]byte{0, 0x12, 0x34, 0x56, 0x78, 0x9a, 0xbc, 0xde, 0xf0})
	if got, want := d.Direct(32), m.direct(32); got != want {
		t.Errorf("Direct(32) = %#x; want %#x", got, want)
	}
}

// P10.1, R3: what is handed in is neither changed nor kept, with the room behind it.
func TestNewDecoderKeepsNothing(t *testing.T) {
	c := rand.New(rand.NewSource(1))
	acts := someActs(c, 400)
	whole := encoded(t, acts, alike(1024))
	room := append(slices.Clone(whole), noise(c, 50)...)
	before := slices.Clone(room)
	d, _ := NewDecoder(room[:len(whole)])
	wantActs(t, d, acts, alike(1024))
	wantEnd(t, d, 0, api.OK)
	if !bytes.Equal(room, before) {
		t.Fatal("what was handed in was changed")
	}

	d, _ = NewDecoder(room[:len(whole)])
	for i := range room {
		room[i] ^= 0xff
	}
	wantActs(t, d, acts, alike(1024))
	wantEnd(t, d, 0, api.OK)
}

// P10.2: a code just at the bound, one below it, and at both ends, of each chance that is used.
func TestBitAtTheBound(t *testing.T) {
	for c := uint16(31); c <= 2017; c++ {
		bound := 2097151 * uint32(c)
		for _, x := range []struct {
			code uint32
			bit  int
			span uint32
			rest uint32
		}{
			{0, 0, bound, 0},
			{bound - 1, 0, bound, bound - 1},
			{bound, 1, math.MaxUint32 - bound, 0},
			{bound + 1, 1, math.MaxUint32 - bound, 1},
			{math.MaxUint32, 1, math.MaxUint32 - bound, math.MaxUint32 - bound},
		} {
			d, p := open(t, beginning(x.code)...), c
			if bit := d.Bit(&p); bit != x.bit || d.span != x.span || d.code != x.rest || p != learnModel(c, x.bit) {
				t.Fatalf("chance %d, code %#x: %d, chance %d, %+v", c, x.code, bit, p, d)
			}
		}
	}
}

// P10.2: the bits 0 and 1 of the first bit, reckoned by hand.
func TestBitByHand(t *testing.T) {
	p := uint16(1024)
	if d := open(t, 0, 0x7f, 0xff, 0xfb, 0xff); d.Bit(&p) != 0 || p != 1056 || d.span != 0x7ffffc00 {
		t.Errorf("%d, %+v", p, d)
	}
	p = 1024
	if d := open(t, 0, 0x7f, 0xff, 0xfc, 0x00); d.Bit(&p) != 1 || p != 992 || d.span != 0x800003ff || d.code != 0 {
		t.Errorf("%d, %+v", p, d)
	}
}

// P10.2: a code at the range when that is halved, and one below it.
func TestDirectAtTheHalf(t *testing.T) {
	for _, x := range []struct {
		code, bit, rest uint32
	}{{0, 0, 0}, {0x7ffffffe, 0, 0x7ffffffe}, {0x7fffffff, 1, 0}, {0x80000000, 1, 1}, {math.MaxUint32, 1, 0x80000000}} {
		d := open(t, beginning(x.code)...)
		if got := d.Direct(1); got != x.bit || d.span != 0x7fffffff || d.code != x.rest {
			t.Errorf("code %#x: %d, %+v", x.code, got, d)
		}
	}
}

// P10.2, P10.3: a range just 2^24 is in order, one below it is not; each call brings it there ahead of all else, and once.
func TestOrderAtTheLeastRange(t *testing.T) {
	calls := map[string]struct {
		call func(*Decoder)
		span func(uint32) uint32
	}{
		"Bit":    {func(d *Decoder) { p := uint16(1024); d.Bit(&p) }, func(s uint32) uint32 { return s / 2048 * 1024 }},
		"Direct": {func(d *Decoder) { d.Direct(1) }, func(s uint32) uint32 { return s / 2 }},
		"End":    {func(d *Decoder) { d.End() }, func(s uint32) uint32 { return s }},
	}
	for name, x := range calls {
		for _, o := range []struct {
			span, inOrder, code uint32
			left                int
		}{
			{1<<24 - 1, 0xffffff00, 0x12345, 2},
			{1 << 24, 1 << 24, 0x123, 3},
			{1<<24 + 1, 1<<24 + 1, 0x123, 3},
			{1 << 16, 1 << 24, 0x12345, 2},
		} {
			d := &Decoder{span: o.span, code: 0x123, rest: []byte{0x45, 0x67, 0x89}}
			x.call(d)
			if d.span != x.span(o.inOrder) || d.code != o.code || len(d.rest) != o.left || d.wanting {
				t.Errorf("%s at range %#x: %+v", name, o.span, d)
			}
		}
	}
}

// P10.2: no byte is there to be brought in: it is 0, and wanting from then on.
func TestOrderBehindTheEnd(t *testing.T) {
	d := &Decoder{span: 1<<24 - 1, code: 0x123456}
	d.Direct(1)
	if d.code != 0x12345600 || !d.wanting {
		t.Errorf("%+v", d)
	}
	// The code has 32 bits: those above are lost.
	d = &Decoder{span: 1 << 20, code: 0xabcdef12, rest: []byte{0x34}}
	d.order()
	if d.code != 0xcdef1234 || d.wanting {
		t.Errorf("%+v", d)
	}
}

// P10.2: n is brought into 0 to 32.
func TestDirectBringsItsNumberIn(t *testing.T) {
	b := append([]byte{0}, noise(rand.New(rand.NewSource(2)), 40)...)
	for n, want := range map[int]int{math.MinInt: 0, -33: 0, -1: 0, 0: 0, 1: 1, 2: 2, 31: 31, 32: 32, 33: 32, 64: 32, 1 << 40: 32, math.MaxInt: 32} {
		d, m := open(t, b...), newDecoderModel(b)
		for range 6 {
			if got, x := d.Direct(n), m.direct(want); got != x || len(d.rest) != len(b)-m.at {
				t.Fatalf("Direct(%d) = %#x, %d bytes left; want %#x, %d", n, got, len(d.rest), x, len(b)-m.at)
			}
		}
	}
}

// P10.2: of no bits nothing is done: not even brought into order.
func TestDirectOfNothing(t *testing.T) {
	d := open(t, make([]byte, 6)...)
	d.Direct(8)
	for _, n := range []int{0, -1, math.MinInt} {
		if d.Direct(n) != 0 || len(d.rest) != 1 {
			t.Fatalf("%+v", d)
		}
	}
	wantEnd(t, d, 0, api.OK)
}

// P10.2: each chance that can be handed in, and each bit; those that are not used count as the nearest that is.
func TestBitOfEachChance(t *testing.T) {
	for c := range 1 << 16 {
		for _, code := range []uint32{0, math.MaxUint32} {
			d, m := open(t, beginning(code)...), newDecoderModel(beginning(code))
			p, q := uint16(c), uint16(c)
			if got, want := d.Bit(&p), m.bit(&q); got != want || p != q || int64(d.span) != m.span || int64(d.code) != m.code {
				t.Fatalf("chance %d, code %#x: %d, chance %d, %+v; want %d, chance %d, %+v", c, code, got, p, d, want, q, m)
			}
		}
	}
}

// The chance learns (Words), by hand: at the ends, and beyond them.
func TestLearning(t *testing.T) {
	for _, x := range []struct{ from, zero, one uint16 }{
		{1024, 1056, 992}, {31, 94, 31}, {30, 94, 31}, {0, 94, 31}, {32, 95, 31}, {63, 125, 62}, {64, 126, 62},
		{2017, 2017, 1954}, {2018, 2017, 1954}, {65535, 2017, 1954}, {2016, 2017, 1953}, {1985, 1986, 1923}, {1984, 1986, 1922},
	} {
		for bit, want := range []uint16{x.zero, x.one} {
			p := x.from
			NewEncoder().Bit(&p, bit)
			if p != want {
				t.Errorf("encoder: %d behind %d is %d; want %d", x.from, bit, p, want)
			}
			d, p := open(t, beginning([]uint32{0, math.MaxUint32}[bit])...), x.from
			if got := d.Bit(&p); got != bit || p != want {
				t.Errorf("decoder: %d behind %d is %d; want %d", x.from, got, p, want)
			}
		}
	}
}

// P10.2, P10.3: whatever bytes, whatever is asked; the bytes end in the midst, and are read on behind.
func TestDecoderOfNoise(t *testing.T) {
	c := rand.New(rand.NewSource(3))
	for k := range 3000 {
		b := append([]byte{0}, noise(c, 4+c.Intn(60))...)
		if k%4 == 0 { // a code at the range's end, which no encoder tells
			copy(b[1:], bytes.Repeat([]byte{255}, c.Intn(len(b))))
		}
		d, m := open(t, b...), newDecoderModel(b)
		p := someChances(c)
		q := slices.Clone(p)
		for i := range 200 {
			which, n := c.Intn(manyChances), c.Intn(33)
			switch c.Intn(8) {
			case 0:
				if got, want := d.Direct(n), m.direct(n); got != want {
					t.Fatalf("% x: act %d: Direct(%d) = %#x; want %#x", b, i, n, got, want)
				}
			case 1:
				left, e := m.end()
				wantEnd(t, d, left, e)
			default:
				if got, want := d.Bit(&p[which]), m.bit(&q[which]); got != want || p[which] != q[which] {
					t.Fatalf("% x: act %d: Bit = %d, chance %d; want %d, %d", b, i, got, p[which], want, q[which])
				}
			}
			if int64(d.span) != m.span || int64(d.code) != m.code {
				t.Fatalf("% x: act %d: %+v; want %+v", b, i, d, m)
			}
		}
	}
}

// P10.3: whether a byte is taken at End, and how many were not.
func TestEndTellsWhatIsLeft(t *testing.T) {
	for n := range 6 {
		wantEnd(t, open(t, make([]byte, 5+n)...), n, api.OK)
	}
	// Behind 7 bits the range is 2^25 - 1, behind 8 it is 2^24 - 1: brought into order at End.
	for bits, taken := range map[int]int{0: 0, 7: 0, 8: 1, 9: 1, 15: 1, 16: 2, 17: 2, 24: 3, 31: 3, 32: 4} {
		for n := range 7 {
			d := open(t, make([]byte, 5+n)...)
			d.Direct(bits)
			if n < taken {
				wantEnd(t, d, 0, api.ErrTruncated)
			} else {
				wantEnd(t, d, n-taken, api.OK)
			}
		}
	}
}

// P10.3: the byte that is brought in at End belongs to the code.
func TestEndLooksAtTheByteItTakes(t *testing.T) {
	for _, x := range []struct {
		bits int
		last byte
		left int
		e    api.Errno
	}{{7, 1, 1, api.OK}, {8, 1, 0, api.ErrMalformed}, {8, 0, 0, api.OK}, {7, 0, 1, api.OK}} {
		d := open(t, 0, 0, 0, 0, 0, x.last)
		d.Direct(x.bits)
		wantEnd(t, d, x.left, x.e)
	}
}

// P10.3: a code that is not 0; of both errors the one that is named first.
func TestEndRefuses(t *testing.T) {
	for _, code := range []uint32{1, 0x100, 0x10000, 0x1000000, 0x80000000, math.MaxUint32} {
		wantEnd(t, open(t, beginning(code)...), 0, api.ErrMalformed)
		wantEnd(t, open(t, append(beginning(code), 0, 0)...), 0, api.ErrMalformed)
	}
	d := open(t, 0, 0, 0, 0, 1)
	d.Direct(8)
	wantEnd(t, d, 0, api.ErrTruncated)
	d = open(t, 0, 0, 0, 0, 1)
	d.Direct(32)
	d.Direct(32)
	if d.code == 0 {
		t.Fatal("the code was to be not 0")
	}
	wantEnd(t, d, 0, api.ErrTruncated)
}

// P10.3: bytes were wanting at any time: no reading on makes that undone.
func TestEndRemembersWhatWasWanting(t *testing.T) {
	d := open(t, make([]byte, 5)...)
	d.Direct(9)
	p := uint16(1024)
	for range 300 {
		wantEnd(t, d, 0, api.ErrTruncated)
		if d.Bit(&p) != 0 || d.Direct(3) != 0 {
			t.Fatal("bits behind the end of nothing but 0s")
		}
	}
}

// P10.3, R4: End may be asked between any two acts, whatever it answers, and nothing else is told for that.
func TestEndChangesNothing(t *testing.T) {
	c := rand.New(rand.NewSource(4))
	for range 50 {
		acts, chances := someActs(c, 300), someChances(c)
		whole := encoded(t, acts, chances)
		d := open(t, append(whole, noise(c, 3)...)...)
		for i, a := range acts {
			wantActs(t, d, acts[i:i+1], chances)
			if !a.direct {
				chances[a.which] = learnModel(chances[a.which], int(a.x))
			}
			d.End()
		}
		wantEnd(t, d, 3, api.OK)
	}
}

// P10.3: bytes that end too early, at each of their places.
func TestCutAnywhere(t *testing.T) {
	c := rand.New(rand.NewSource(5))
	var acts []act
	for range 25 {
		acts = append(acts, act{direct: true, x: c.Uint32(), n: c.Intn(33)})
	}
	whole := encoded(t, acts, alike(1024))
	for n := range len(whole) {
		d, e := NewDecoder(whole[:n])
		if n < 5 {
			if d != nil || e != api.ErrTruncated {
				t.Fatalf("%d bytes: %v, %v", n, d, e)
			}
			continue
		}
		for _, a := range acts {
			d.Direct(a.n)
		}
		wantEnd(t, d, 0, api.ErrTruncated)
	}

	acts = someActs(c, 500)
	whole = encoded(t, acts, alike(1024))
	for n := 5; n < len(whole); n++ {
		d, m := open(t, whole[:n]...), newDecoderModel(whole[:n])
		p, q := alike(1024), alike(1024)
		for _, a := range acts {
			if a.direct && d.Direct(a.n) != m.direct(a.n) || !a.direct && d.Bit(&p[a.which]) != m.bit(&q[a.which]) {
				t.Fatalf("%d bytes: act %v", n, a)
			}
		}
		left, e := m.end()
		wantEnd(t, d, left, e)
		for range n {
			d.Direct(32)
		}
		wantEnd(t, d, 0, api.ErrTruncated)
	}
}

// P10.2: p nil: nothing is done.
func TestNoChance(t *testing.T) {
	d := open(t, 0, 255, 255, 255, 255, 1)
	d.Direct(8)
	before := *d
	if d.Bit(nil) != 0 || !reflect.DeepEqual(*d, before) {
		t.Errorf("%+v", d)
	}
	e := NewEncoder()
	e.Direct(0xabcde, 20)
	was := *e
	e.Bit(nil, 0)
	e.Bit(nil, 1)
	if !reflect.DeepEqual(*e, was) {
		t.Errorf("%+v", e)
	}
}

// R1
func TestNilObjects(t *testing.T) {
	var d *Decoder
	p := uint16(7)
	if d.Bit(&p) != 0 || d.Bit(nil) != 0 || p != 7 {
		t.Error("Bit", p)
	}
	var e *Encoder
	for _, n := range []int{math.MinInt, -1, 0, 1, 32, 33, math.MaxInt} {
		if d.Direct(n) != 0 {
			t.Error("Direct", n)
		}
		e.Bit(&p, n)
		e.Bit(nil, n)
		e.Direct(math.MaxUint32, n)
	}
	if p != 7 {
		t.Error("a chance learned", p)
	}
	wantEnd(t, d, 0, api.ErrNil)
	if b := e.Close(); len(b) != 0 {
		t.Errorf("Close = % x", b)
	}
}

// R1: objects that none of the package's calls gave end all the same.
func TestObjectsAsGoMakesThem(t *testing.T) {
	d, e, p := &Decoder{}, &Encoder{}, uint16(1024)
	d.Bit(&p)
	d.Direct(32)
	wantEnd(t, d, 0, api.ErrTruncated)
	e.Bit(&p, 1)
	e.Direct(1, 32)
	if b := e.Close(); len(b) != 0 {
		t.Errorf("Close = % x", b)
	}
}

// R2: decoders of the same bytes don't touch one another.
func TestDecodersStandApart(t *testing.T) {
	c := rand.New(rand.NewSource(6))
	acts := someActs(c, 300)
	b := encoded(t, acts, alike(1024))
	one, two := open(t, b...), open(t, b...)
	for range 9 {
		two.Direct(32)
	}
	wantActs(t, one, acts, alike(1024))
	wantEnd(t, one, 0, api.OK)
}
