package ranges

import (
	"bytes"
	"math"
	"math/rand"
	"slices"
	"testing"

	"baler/api"
)

func wantClose(t *testing.T, e *Encoder, want ...byte) {
	t.Helper()
	if got := e.Close(); !bytes.Equal(got, want) {
		t.Fatalf("Close = % x; want % x", got, want)
	}
}

func TestExamples(t *testing.T) {
	wantClose(t, NewEncoder(), 0, 0, 0, 0, 0)

	e := NewEncoder()
	e.Direct(5, 3)
	d := open(t, e.Close()...)
	if x := d.Direct(3); x != 5 {
		t.Errorf("Direct(3) = %d", x)
	}
	wantEnd(t, d, 0, api.OK)

	if d, e := NewDecoder([]byte{1, 0, 0, 0, 0}); d != nil || e != api.ErrMalformed {
		t.Error(d, e)
	}
	if d, e := NewDecoder([]byte{0, 0, 0, 0}); d != nil || e != api.ErrTruncated {
		t.Error(d, e)
	}

	p := uint16(1024)
	if open(t, 0, 0, 0, 0, 0).Bit(&p) != 0 || p != 1056 {
		t.Error(p)
	}
}

// P10.4: bytes that are reckoned by hand from the section Words.
func TestEncoderByHand(t *testing.T) {
	e, p := NewEncoder(), uint16(1024)
	e.Bit(&p, 0)
	wantClose(t, e, 0, 0, 0, 0, 0)

	// The bound is 1fffff 400.
	e, p = NewEncoder(), 1024
	e.Bit(&p, 1)
	wantClose(t, e, 0, 0x7f, 0xff, 0xfc, 0x00)

	// The range is 7ffffc00 behind the first bit, the second one's bound fffff times 1056.
	e, p = NewEncoder(), 1024
	e.Bit(&p, 0)
	e.Bit(&p, 1)
	wantClose(t, e, 0, 0x41, 0xff, 0xfb, 0xe0)

	// 7fffffff and 1fffffff.
	e = NewEncoder()
	e.Direct(5, 3)
	wantClose(t, e, 0, 0x9f, 0xff, 0xff, 0xfe)

	// Low is fefffff8 behind 8 bits, and the range 2^24 - 1: a shift.
	e = NewEncoder()
	e.Direct(0xff, 8)
	wantClose(t, e, 0, 0xfe, 0xff, 0xff, 0xf8, 0x00)

	// The next 8 add feffff01 to fffff800: fe gets the carry.
	e = NewEncoder()
	e.Direct(0xffff, 16)
	wantClose(t, e, 0, 0xff, 0xfe, 0xff, 0xf7, 0x01, 0x00)

	// A chance of 2017 and the bit 1: the bound is 1fffff times 2017, the range 1f times 1fffff and 7ff: no shift yet.
	e, p = NewEncoder(), 2017
	e.Bit(&p, 1)
	if e.span != 31*0x1fffff+2047 || p != 1954 {
		t.Errorf("%d, %+v", p, e)
	}
	wantClose(t, e, 0, 0xfc, 0x1f, 0xf8, 0x1f)
}

// P10.4: a shift of each low at the edges that Words names, with one byte that waits, and several.
func TestShift(t *testing.T) {
	const ff = 0xff
	for _, x := range []struct {
		low     uint64
		first   byte
		waiting int
		out     []byte
		then    byte
		wait    int
		left    uint64
	}{
		{0, 7, 1, []byte{7}, 0, 1, 0},
		{0x12345678, 7, 1, []byte{7}, 0x12, 1, 0x34567800},
		{0xfeffffff, 7, 1, []byte{7}, 0xfe, 1, 0xffffff00},
		{0xff000000, 7, 1, nil, 7, 2, 0},
		{0xff000001, 7, 1, nil, 7, 2, 0x100},
		{0xffffffff, 7, 1, nil, 7, 2, 0xffffff00},
		{0x100000000, 7, 1, []byte{8}, 0, 1, 0},
		{0x1ff123456, 7, 1, []byte{8}, 0xff, 1, 0x12345600},
		{0xfeffffff, 7, 2, []byte{7, ff}, 0xfe, 1, 0xffffff00},
		{0x100000000, 7, 2, []byte{8, 0}, 0, 1, 0},
		{0xff000000, 7, 5, nil, 7, 6, 0},
		{0x01000000, 7, 5, []byte{7, ff, ff, ff, ff}, 1, 1, 0},
		{0x101000000, 7, 5, []byte{8, 0, 0, 0, 0}, 1, 1, 0},
		{0x00000000, ff, 1, []byte{ff}, 0, 1, 0},
		{0x100000000, ff, 1, []byte{0}, 0, 1, 0},
		{0x100000000, ff, 3, []byte{0, 0, 0}, 0, 1, 0},
		{0x100000000, 0xfe, 3, []byte{ff, 0, 0}, 0, 1, 0},
	} {
		e := &Encoder{low: x.low, span: 1 << 24, first: x.first, waiting: x.waiting, out: []byte{9}, open: true}
		e.shift()
		if !bytes.Equal(e.out, append([]byte{9}, x.out...)) || e.first != x.then || e.waiting != x.wait || e.low != x.left || e.span != 1<<24 {
			t.Errorf("shift of low %#x, %#x and %d waiting: %+v", x.low, x.first, x.waiting, e)
		}
	}
}

// P10.4: a range just 2^24 is left, one below it is moved, with a shift.
func TestShiftsWhenTheRangeIsSmall(t *testing.T) {
	bit := func(chance uint16, bit int) func(*Encoder) {
		return func(e *Encoder) { e.Bit(&chance, bit) }
	}
	half := func(e *Encoder) { e.Direct(0, 1) }
	for _, x := range []struct {
		span   uint32
		call   func(*Encoder)
		then   uint32
		shifts int
	}{
		{1<<25 + 1, half, 1 << 24, 0},
		{1 << 25, half, 1 << 24, 0},
		{1<<25 - 1, half, 0xffffff00, 1},
		{1 << 24, half, 1 << 31, 1},
		// 2^14 times 1024, 9945 times 1687: the bound is the range then.
		{1 << 25, bit(1024, 0), 1 << 24, 0},
		{9945 * 2048, bit(1687, 0), 0xffffff00, 1},
		// 541200 times 31, and 16 or 15: what is above the bound.
		{541200*2048 + 16, bit(2017, 1), 1 << 24, 0},
		{541200*2048 + 15, bit(2017, 1), 0xffffff00, 1},
	} {
		e := &Encoder{span: x.span, waiting: 1, open: true}
		x.call(e)
		if e.span != x.then || len(e.out) != x.shifts {
			t.Errorf("range %#x: %+v; want %#x and %d shifts", x.span, e, x.then, x.shifts)
		}
	}
}

// P10.4: Bit and Direct, against an encoder in which no byte waits.
func TestEncoderAgainstTheModel(t *testing.T) {
	c := rand.New(rand.NewSource(11))
	for range 1500 {
		encoded(t, someActs(c, c.Intn(200)), someChances(c))
	}
}

// P10.4: each chance that can be handed in, and each bit.
func TestEncoderOfEachChance(t *testing.T) {
	for c := range 1 << 16 {
		for bit := range 2 {
			list := []act{{which: 0, x: uint32(bit)}, {which: 0, x: uint32(1 - bit)}, {which: 0, x: uint32(bit)}}
			encoded(t, list, []uint16{uint16(c)})
		}
	}
}

// P10.4: any bit that is not 0 counts as 1.
func TestAnyOtherBit(t *testing.T) {
	for _, bit := range []int{-1, 2, -2, 3, 256, 1 << 32, math.MinInt, math.MaxInt} {
		one, other := NewEncoder(), NewEncoder()
		p, q := uint16(1024), uint16(1024)
		for i := range 50 {
			one.Bit(&p, i%2)
			other.Bit(&q, i%2*bit)
			if p != q {
				t.Fatalf("bit %d: chance %d; want %d", bit, q, p)
			}
		}
		wantClose(t, other, one.Close()...)
	}
}

// P10.4: n is brought into 0 to 32, and of x its lowest bits count alone.
func TestDirectTakesTheLowestBits(t *testing.T) {
	for n, count := range map[int]int{math.MinInt: 0, -33: 0, -1: 0, 0: 0, 1: 1, 2: 2, 7: 7, 8: 8, 9: 9, 31: 31, 32: 32, 33: 32, 64: 32, math.MaxInt: 32} {
		for _, x := range []uint32{0, 1, 0x55555555, 0xaaaaaaaa, 0x80000000, 0x7fffffff, 0xfffffffe, math.MaxUint32} {
			e, m := NewEncoder(), newEncoderModel()
			for range 3 {
				e.Direct(x, n)
				m.direct(x, count)
			}
			b := e.Close()
			if !bytes.Equal(b, m.bytes()) {
				t.Fatalf("Direct(%#x, %d): % x; want % x", x, n, b, m.bytes())
			}
			if count < 32 {
				low := NewEncoder()
				for range 3 {
					low.Direct(x%(1<<count), n)
				}
				wantClose(t, low, b...)
			}
		}
	}
}

// straddle adds acts to e that keep 2^32 within its range, so that each shift lets one more byte wait, until so many do; then
// what decides: the carry, or none. It gives the acts.
func straddle(e *Encoder, waiting int, carry bool) []act {
	const edge = 1 << 32
	var list []act
	put := func(bit uint32) {
		list = append(list, act{direct: true, x: bit, n: 1})
		e.Direct(bit, 1)
	}
	for e.waiting < waiting {
		if e.low+uint64(e.span/2) < edge {
			put(1)
		} else {
			put(0)
		}
	}
	for out := len(e.out); len(e.out) == out; {
		if carry {
			put(1)
		} else {
			put(0)
		}
	}
	return list
}

// P10.4, P10.5: one byte FF that waits, and many, with a carry behind them and without one.
func TestManyThatWait(t *testing.T) {
	for _, waiting := range []int{1, 2, 3, 4, 10, 300} {
		for _, carry := range []bool{false, true} {
			e := NewEncoder()
			start := []act{{direct: true, x: 0xff, n: 8}}
			e.Direct(0xff, 8)
			acts := slices.Concat(start, straddle(e, waiting, carry))
			acts = append(acts, act{direct: true, x: 0, n: 32}, act{direct: true, x: 0x9abcdef0, n: 32})
			b := encoded(t, acts, alike(1024))
			// Behind fe, which waits first, all are FF if no carry came, and 00 behind ff if one did.
			want, behind := byte(0xfe), byte(0xff)
			if carry {
				want, behind = 0xff, 0
			}
			if b[1] != want || !bytes.Equal(b[2:1+waiting], bytes.Repeat([]byte{behind}, waiting-1)) {
				t.Fatalf("%d waiting, carry %v: % x", waiting, carry, b)
			}
			d := open(t, b...)
			wantActs(t, d, acts, alike(1024))
			wantEnd(t, d, 0, api.OK)
		}
	}
}

// P10.4: bytes FF wait at Close too.
func TestCloseWhileManyWait(t *testing.T) {
	for _, waiting := range []int{2, 5, 100} {
		e, m := NewEncoder(), newEncoderModel()
		e.Direct(0xff, 8)
		m.direct(0xff, 8)
		for e.waiting < waiting {
			bit := uint32(0)
			if e.low+uint64(e.span/2) < 1<<32 {
				bit = 1
			}
			e.Direct(bit, 1)
			m.direct(bit, 1)
		}
		wantClose(t, e, m.bytes()...)
	}
}

// P10.4: nothing is encoded behind Close, no chance learns, and Close tells the same again.
func TestNothingBehindClose(t *testing.T) {
	c := rand.New(rand.NewSource(12))
	for k := range 40 {
		acts := someActs(c, k)
		e := NewEncoder()
		p := alike(1024)
		for _, a := range acts {
			if a.direct {
				e.Direct(a.x, a.n)
			} else {
				e.Bit(&p[a.which], int(a.x))
			}
		}
		first := e.Close()
		wantClose(t, e, first...)
		for _, chance := range []uint16{0, 30, 31, 1024, 2017, 2018, 65535} {
			for _, bit := range []int{0, 1, -1} {
				q := chance
				e.Bit(&q, bit)
				e.Bit(nil, bit)
				if q != chance {
					t.Fatalf("chance %d learned behind Close: %d", chance, q)
				}
			}
			e.Direct(math.MaxUint32, 32)
			wantClose(t, e, first...)
		}
	}
}

// P10.4, R3: what Close tells is the caller's, with the room behind it.
func TestCloseGivesNewMemory(t *testing.T) {
	e := NewEncoder()
	e.Direct(0x12345678, 32)
	e.Direct(0x9abcdef0, 32)
	first := e.Close()
	want := slices.Clone(first)
	room := first[:cap(first)]
	for i := range room {
		room[i] = 0xee
	}
	second := e.Close()
	if !bytes.Equal(second, want) {
		t.Fatalf("% x; want % x", second, want)
	}
	second[0] = 0xdd
	wantClose(t, e, want...)
	for i := range room {
		if room[i] != 0xee {
			t.Fatalf("byte %d of what was handed out was written", i)
		}
	}
}

// R2: encoders don't touch one another.
func TestEncodersStandApart(t *testing.T) {
	one, two := NewEncoder(), NewEncoder()
	p, q := uint16(1024), uint16(1024)
	for i := range 100 {
		one.Bit(&p, i%3%2)
		two.Bit(&q, 1)
		two.Direct(uint32(i), 9)
	}
	m, r := newEncoderModel(), uint16(1024)
	for i := range 100 {
		m.bit(&r, i%3%2)
	}
	two.Close()
	wantClose(t, one, m.bytes()...)
}

// P10.5: bits of several chances and numbers between them; bytes behind them are left.
func TestThereAndBack(t *testing.T) {
	c := rand.New(rand.NewSource(13))
	for k := range 800 {
		acts, chances := someActs(c, c.Intn(1+k)), someChances(c)
		b := encoded(t, acts, chances)
		if len(b) < 5 || b[0] != 0 {
			t.Fatalf("Close = % x", b)
		}
		for _, behind := range []int{0, 1, 5} {
			d := open(t, append(slices.Clone(b), noise(c, behind)...)...)
			wantActs(t, d, acts, chances)
			wantEnd(t, d, behind, api.OK)
		}
	}
}

// P10.5: numbers of each length, all bits 0 and all 1, between bits of each kind.
func TestThereAndBackOfEachLength(t *testing.T) {
	for n := range 33 {
		for _, x := range []uint32{0, math.MaxUint32, 0xdeadbeef} {
			for bit := range uint32(2) {
				var acts []act
				for range 40 {
					acts = append(acts, act{direct: true, x: x, n: n}, act{which: 1, x: bit}, act{which: 2, x: 1 - bit})
				}
				d := open(t, encoded(t, acts, alike(1024))...)
				wantActs(t, d, acts, alike(1024))
				wantEnd(t, d, 0, api.OK)
			}
		}
	}
}

// P10.6: behind each bit, of each chance that it may begin with.
func TestAllAlikeTakesFewBytes(t *testing.T) {
	for c := range 2050 {
		for bit := range 2 {
			e, p := NewEncoder(), uint16(c)
			for n := range 1000 {
				now := *e
				now.out = slices.Clone(e.out)
				if size := len(now.Close()); size > n/32+16 {
					t.Fatalf("chance %d: %d bits %d take %d bytes", c, n, bit, size)
				}
				e.Bit(&p, bit)
			}
		}
	}
}

// P10.6
func TestVeryManyAlike(t *testing.T) {
	for _, c := range []uint16{0, 31, 1024, 2017, 65535} {
		for bit := range 2 {
			const n = 1 << 20
			e, p := NewEncoder(), c
			for range n {
				e.Bit(&p, bit)
			}
			b := e.Close()
			if len(b) > n/32+16 {
				t.Errorf("chance %d: %d bits %d take %d bytes", c, n, bit, len(b))
			}
			d, q := open(t, b...), c
			for i := range n {
				if d.Bit(&q) != bit {
					t.Fatalf("chance %d: bit %d", c, i)
				}
			}
			wantEnd(t, d, 0, api.OK)
			if p != q {
				t.Errorf("chances %d, %d", p, q)
			}
		}
	}
}

func BenchmarkEncoder(b *testing.B) {
	b.SetBytes(1 << 13)
	for range b.N {
		e, p := NewEncoder(), uint16(1024)
		for i := range 1 << 16 {
			e.Bit(&p, i>>3&i&1)
		}
		e.Close()
	}
}

func BenchmarkDecoder(b *testing.B) {
	e, p := NewEncoder(), uint16(1024)
	for i := range 1 << 16 {
		e.Bit(&p, i>>3&i&1)
	}
	text := e.Close()
	b.SetBytes(1 << 13)
	for range b.N {
		d, _ := NewDecoder(text)
		p = 1024
		for range 1 << 16 {
			d.Bit(&p)
		}
	}
}
