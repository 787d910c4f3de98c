package zstd_test

import (
	"bytes"
	"fmt"
	"math"
	"math/big"
	"slices"
	"testing"

	"baler/api"
	"baler/literals"
	"baler/sequences"
	"baler/sums"
	"baler/zstd"
)

// What stands here tells P15.1 once more, word by word and byte by byte: the program is held against it.

// answer is what Member tells.
type answer struct {
	out  []byte
	used int
	e    api.Errno
}

func ask(b []byte, budget int) answer {
	out, used, e := zstd.Member(b, budget)
	return answer{out, used, e}
}

func (a answer) same(b answer) bool {
	return bytes.Equal(a.out, b.out) && a.used == b.used && a.e == b.e
}

func whole(content []byte, used int) answer {
	return answer{content, used, api.OK}
}

func refused(e api.Errno, out string) answer {
	return answer{[]byte(out), 0, e}
}

// model reads the first member of some bytes.
type model struct {
	b       []byte
	at      int
	out     []byte
	window  *big.Int
	size    *big.Int // nil, if none is told
	rep     [3]int
	weights []uint8
	tables  sequences.Tables
}

// modelOf tells what Member is to tell.
func modelOf(b []byte, budget int) answer {
	m := &model{b: b, rep: [3]int{1, 4, 8}}
	if e := m.member(min(max(budget, 0), 1<<24)); e != api.OK {
		return answer{m.out, 0, e}
	}
	return answer{m.out, m.at, api.OK}
}

// take gives the next n bytes, if they are there.
func (m *model) take(n int) ([]byte, bool) {
	if len(m.b)-m.at < n {
		return nil, false
	}
	m.at += n
	return m.b[m.at-n : m.at], true
}

func bigOf(b []byte) *big.Int {
	b = slices.Clone(b)
	slices.Reverse(b)
	return new(big.Int).SetBytes(b)
}

func (m *model) member(budget int) api.Errno {
	first, ok := m.take(4)
	if !ok {
		return api.ErrTruncated
	}
	if bytes.Equal(first[1:], []byte{0x2a, 0x4d, 0x18}) && first[0]/16 == 5 {
		size, ok := m.take(4)
		if !ok {
			return api.ErrTruncated
		}
		if _, ok = m.take(int(bigOf(size).Int64())); !ok {
			return api.ErrTruncated
		}
		return api.OK
	}
	if !bytes.Equal(first, []byte{0x28, 0xb5, 0x2f, 0xfd}) {
		return api.ErrMalformed
	}
	d, ok := m.take(1)
	if !ok {
		return api.ErrTruncated
	}
	if d[0]&8 != 0 {
		return api.ErrMalformed
	}
	if e := m.head(d[0], budget); e != api.OK {
		return e
	}
	if e := m.blocks(); e != api.OK {
		return e
	}
	if d[0]&4 != 0 {
		sum, ok := m.take(4)
		if !ok {
			return api.ErrTruncated
		}
		if !bytes.Equal(sum, low(sums.XXH64(m.out), 4)) {
			return api.ErrMalformed
		}
	}
	return api.OK
}

func (m *model) head(d byte, budget int) api.Errno {
	single := d&32 != 0
	dict := []int{0, 1, 2, 4}[d%4]
	size := []int{0, 2, 4, 8}[d/64]
	n := dict + size
	if !single || d/64 == 0 {
		n++
	}
	b, ok := m.take(n)
	if !ok {
		return api.ErrTruncated
	}
	if !single {
		power := new(big.Int).Exp(big.NewInt(2), big.NewInt(int64(10+b[0]/8)), nil)
		eighths := new(big.Int).Div(new(big.Int).Mul(power, big.NewInt(int64(b[0]%8))), big.NewInt(8))
		m.window = new(big.Int).Add(power, eighths)
		b = b[1:]
	}
	if bigOf(b[:dict]).Sign() != 0 {
		return api.ErrUnsupported
	}
	if b = b[dict:]; len(b) > 0 {
		m.size = bigOf(b)
		if len(b) == 2 {
			m.size.Add(m.size, big.NewInt(256))
		}
	}
	if single {
		m.window = m.size
		if m.size.Sign() == 0 {
			m.window = big.NewInt(1)
		}
	}
	if m.window.Cmp(big.NewInt(int64(budget))) > 0 {
		return api.ErrOverBudget
	}
	return api.OK
}

func (m *model) blocks() api.Errno {
	for {
		b, ok := m.take(3)
		if !ok {
			return api.ErrTruncated
		}
		n := int(bigOf(b).Int64())
		last, kind, size := n%2 == 1, n/2%4, n/8
		most := int(min(m.window.Int64(), 131072))
		if kind == 3 || size > most {
			return api.ErrMalformed
		}
		if kind == 1 {
			b, ok = m.take(1)
		} else {
			b, ok = m.take(size)
		}
		if !ok {
			return api.ErrTruncated
		}
		next := slices.Clone(m.out)
		switch kind {
		case 0:
			next = append(next, b...)
		case 1:
			for range size {
				next = append(next, b[0])
			}
		case 2:
			if next, ok = m.packed(next, b, most); !ok {
				return api.ErrMalformed
			}
		}
		if len(next) > 1<<24 {
			return api.ErrLong
		}
		length := big.NewInt(int64(len(next)))
		if m.size != nil && length.Cmp(m.size) > 0 {
			return api.ErrMalformed
		}
		m.out = next
		if last && m.size != nil && length.Cmp(m.size) != 0 {
			return api.ErrMalformed
		}
		if last {
			return api.OK
		}
	}
}

func (m *model) packed(all, b []byte, most int) ([]byte, bool) {
	begin := len(all)
	lits, weights, used, e := literals.Read(b, m.weights, most)
	if e != api.OK {
		return nil, false
	}
	l, tables, e := sequences.Read(b[used:], m.tables)
	if e != api.OK {
		return nil, false
	}
	m.weights, m.tables = weights, tables
	for _, s := range l {
		for range s.Lits {
			if len(lits) == 0 {
				return nil, false
			}
			all, lits = append(all, lits[0]), lits[1:]
		}
		distance, e := sequences.Value(&m.rep, s.Lits, s.Back)
		if e != api.OK || int64(distance) > m.window.Int64() || distance > len(all) {
			return nil, false
		}
		for range s.Match {
			all = append(all, all[len(all)-distance])
			if len(all)-begin > most {
				return nil, false
			}
		}
	}
	all = append(all, lits...)
	return all, len(all)-begin <= most
}

// wants asks for the first member of b, with other bytes in the room behind it: the answer must be the one that is wanted, and the
// model's; b must be as it was; and what was told must be new memory.
func wants(t *testing.T, what string, b []byte, budget int, want answer) {
	t.Helper()
	room := append(slices.Clone(b), "what stands behind the end"...)
	old := slices.Clone(room)
	got := ask(room[:len(b)], budget)
	if !got.same(want) {
		t.Errorf("%s: %s; want %s", what, got.brief(), want.brief())
		return
	}
	if plain := modelOf(b, budget); !plain.same(want) {
		t.Errorf("%s: by the model %s; want %s", what, plain.brief(), want.brief())
	}
	if !bytes.Equal(room, old) {
		t.Errorf("%s: what was handed in was changed", what)
	}
	ownMemory(t, what, room, len(b), budget, got)
}

// ownMemory changes what was told, with the room behind its end, and then what was handed in: neither shows in the other one, nor
// in a later answer.
func ownMemory(t *testing.T, what string, room []byte, n, budget int, got answer) {
	t.Helper()
	want, old := slices.Clone(got.out), slices.Clone(room)
	again := ask(room[:n], budget)
	all := got.out[:cap(got.out)]
	for k := range all {
		all[k] ^= 0xff
	}
	if !bytes.Equal(room, old) {
		t.Errorf("%s: what was told shares memory with what was handed in", what)
	}
	if !bytes.Equal(again.out, want) {
		t.Errorf("%s: two answers share memory", what)
	}
	for k := range room {
		room[k] ^= 0xff
	}
	if !bytes.Equal(again.out, want) {
		t.Errorf("%s: what was handed in was kept", what)
	}
}

// brief tells an answer in few words.
func (a answer) brief() string {
	return fmt.Sprintf("%d bytes %.40q, used %d, error %d", len(a.out), a.out, a.used, int(a.e))
}

// takes looks that a member is taken whole with its content: with any budget from its window on, with whatever stands behind it,
// and that each of its beginnings is ErrTruncated (P15.1, P15.3 to P15.5).
func takes(t *testing.T, what string, b, content []byte) {
	t.Helper()
	want := whole(content, len(b))
	window, e := zstd.Window(b)
	if e != api.OK {
		t.Errorf("%s: Window: %d", what, int(e))
	}
	wants(t, what, b, window, want)
	for _, budget := range []int{window + 1, 1 << 24, 1<<24 + 1, math.MaxInt} {
		if got := ask(b, budget); !got.same(want) {
			t.Errorf("%s, budget %d: %s", what, budget, got.brief())
		}
	}
	for _, budget := range []int{window - 1, 0, -1, math.MinInt} {
		if got := ask(b, budget); window > 0 && !got.same(refused(api.ErrOverBudget, "")) {
			t.Errorf("%s, budget %d: %s", what, budget, got.brief())
		}
	}
	for _, more := range [][]byte{{0}, {0xff}, []byte("more"), b, make([]byte, 50)} {
		if got := ask(slices.Concat(b, more), window); !got.same(want) {
			t.Errorf("%s, with % x behind it: %s", what, more, got.brief())
		}
	}
	cutAnywhere(t, what, b, content)
}

// cutAnywhere looks at the beginnings of a member: at each, or, of a long one, at some and at all of the last ones.
func cutAnywhere(t *testing.T, what string, b, content []byte) {
	t.Helper()
	told := 0
	for n := 0; n < len(b); n++ {
		if len(b) > 2000 && n > 100 && n < len(b)-100 && n%(len(b)/50) != 0 {
			continue
		}
		got := ask(b[:n:n], 1<<24)
		if got.e != api.ErrTruncated || got.used != 0 || !bytes.HasPrefix(content, got.out) {
			t.Errorf("%s: %d of %d bytes: %s", what, n, len(b), got.brief())
		}
		if len(got.out) < told {
			t.Errorf("%s: %d of %d bytes tell less than fewer did", what, n, len(b))
		}
		told = len(got.out)
	}
}
