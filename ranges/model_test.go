package ranges

import (
	"math/big"
	"math/rand"
	"slices"
	"testing"

	"baler/api"
)

// What stands here tells the chapter's words once more, in a plain and slow way: the program is held against it.

func usedModel(p uint16) int64 {
	if p < 31 {
		return 31
	}
	if p > 2017 {
		return 2017
	}
	return int64(p)
}

func learnModel(p uint16, bit int) uint16 {
	c := usedModel(p)
	if bit == 0 {
		return uint16(c + (2048-c)/32)
	}
	return uint16(c - c/32)
}

// encoderModel lets no byte wait: low is one number that grows with each shift, so that a carry goes where arithmetic brings it.
type encoderModel struct {
	low    *big.Int
	span   int64
	shifts int
}

func newEncoderModel() *encoderModel {
	return &encoderModel{low: new(big.Int), span: 4294967295}
}

func (m *encoderModel) add(x int64) {
	m.low.Add(m.low, big.NewInt(x))
}

func (m *encoderModel) order() {
	for m.span < 16777216 {
		m.span *= 256
		m.low.Mul(m.low, big.NewInt(256))
		m.shifts++
	}
}

func (m *encoderModel) bit(p *uint16, bit int) {
	bound := m.span / 2048 * usedModel(*p)
	if bit == 0 {
		m.span = bound
	} else {
		m.add(bound)
		m.span -= bound
	}
	*p = learnModel(*p, bit)
	m.order()
}

func (m *encoderModel) direct(x uint32, n int) {
	for k := n - 1; k >= 0; k-- {
		m.span /= 2
		if int64(x)/(1<<k)%2 == 1 {
			m.add(m.span)
		}
		m.order()
	}
}

// bytes gives low's 4 bytes and one for each shift, behind the byte 0 that waited at first.
func (m *encoderModel) bytes() []byte {
	return m.low.FillBytes(make([]byte, 5+m.shifts))
}

// decoderModel reads from a place in all the bytes.
type decoderModel struct {
	b       []byte
	at      int
	span    int64
	code    int64
	wanting bool
}

func newDecoderModel(b []byte) *decoderModel {
	m := &decoderModel{b: b, at: 5, span: 4294967295}
	for _, x := range b[1:5] {
		m.code = m.code*256 + int64(x)
	}
	return m
}

func (m *decoderModel) order() {
	if m.span >= 16777216 {
		return
	}
	m.span *= 256
	m.code = m.code * 256 % 4294967296
	if m.at < len(m.b) {
		m.code += int64(m.b[m.at])
		m.at++
	} else {
		m.wanting = true
	}
}

func (m *decoderModel) bit(p *uint16) int {
	m.order()
	bound := m.span / 2048 * usedModel(*p)
	bit := 0
	if m.code < bound {
		m.span = bound
	} else {
		m.code, m.span, bit = m.code-bound, m.span-bound, 1
	}
	*p = learnModel(*p, bit)
	return bit
}

func (m *decoderModel) direct(n int) uint32 {
	x := int64(0)
	for range n {
		m.order()
		m.span /= 2
		x *= 2
		if m.code >= m.span {
			m.code -= m.span
			x++
		}
	}
	return uint32(x)
}

func (m *decoderModel) end() (int, api.Errno) {
	m.order()
	if m.wanting {
		return 0, api.ErrTruncated
	}
	if m.code != 0 {
		return 0, api.ErrMalformed
	}
	return len(m.b) - m.at, api.OK
}

// act is a bit of one of several chances, or a number of n bits.
type act struct {
	direct bool
	which  int
	x      uint32
	n      int
}

const manyChances = 5

// someActs gives acts in which the bits of each chance are unlike often, so that chances come near to both ends.
func someActs(c *rand.Rand, count int) []act {
	list := make([]act, count)
	for i := range list {
		if c.Intn(6) == 0 {
			list[i] = act{direct: true, x: c.Uint32(), n: c.Intn(33)}
			continue
		}
		which := c.Intn(manyChances)
		bit := uint32(0)
		if c.Intn(1<<(2*manyChances)) < 1<<(2*which) {
			bit = 1
		}
		list[i] = act{which: which, x: bit}
	}
	return list
}

// someChances gives chances of which a few are beyond those that are used.
func someChances(c *rand.Rand) []uint16 {
	list := make([]uint16, manyChances)
	for i := range list {
		list[i] = uint16(c.Intn(2100))
		if c.Intn(8) == 0 {
			list[i] = uint16(c.Intn(65536))
		}
	}
	return list
}

func alike(p uint16) []uint16 {
	return slices.Repeat([]uint16{p}, manyChances)
}

// encoded gives the bytes of the acts. The bytes, and the chance behind each act, are as the model has them.
func encoded(t *testing.T, acts []act, chances []uint16) []byte {
	t.Helper()
	p, q := slices.Clone(chances), slices.Clone(chances)
	e, m := NewEncoder(), newEncoderModel()
	for i, a := range acts {
		if a.direct {
			e.Direct(a.x, a.n)
			m.direct(a.x, a.n)
		} else {
			e.Bit(&p[a.which], int(a.x))
			m.bit(&q[a.which], int(a.x))
		}
		if !slices.Equal(p, q) {
			t.Fatalf("act %d (%v): chances %v; want %v", i, a, p, q)
		}
	}
	got, want := e.Close(), m.bytes()
	if !slices.Equal(got, want) {
		t.Fatalf("acts %v, chances %v: Close = % x; want % x", acts, chances, got, want)
	}
	return got
}

// wantActs reads the acts from d, with the chances as encoded had them, and tells if all came as they were.
func wantActs(t *testing.T, d *Decoder, acts []act, chances []uint16) {
	t.Helper()
	p, q := slices.Clone(chances), slices.Clone(chances)
	for i, a := range acts {
		if a.direct {
			if got, want := d.Direct(a.n), uint32(uint64(a.x)%(1<<a.n)); got != want {
				t.Fatalf("act %d: Direct(%d) = %#x; want %#x", i, a.n, got, want)
			}
			continue
		}
		if got := d.Bit(&p[a.which]); got != int(a.x) {
			t.Fatalf("act %d: Bit = %d; want %d", i, got, a.x)
		}
		q[a.which] = learnModel(q[a.which], int(a.x))
		if !slices.Equal(p, q) {
			t.Fatalf("act %d: chances %v; want %v", i, p, q)
		}
	}
}

func open(t *testing.T, b ...byte) *Decoder {
	t.Helper()
	d, e := NewDecoder(b)
	if d == nil || e != api.OK {
		t.Fatalf("NewDecoder(% x) = %v, %v", b, d, e)
	}
	return d
}

func wantEnd(t *testing.T, d *Decoder, left int, e api.Errno) {
	t.Helper()
	for range 2 {
		if gotLeft, got := d.End(); gotLeft != left || got != e {
			t.Fatalf("End = %d, %v; want %d, %v", gotLeft, got, left, e)
		}
	}
}

func noise(c *rand.Rand, n int) []byte {
	b := make([]byte, n)
	c.Read(b)
	return b
}
