package weights

import (
	"bytes"
	"math/rand"
	"slices"
	"strings"
	"testing"

	"baler/api"
	"baler/states"
)

// What stands here tells the chapter's words once more, in a plain and slow way, by rows of signs: the program is held against it.

// isCode tells if weights make a code and of which power of 2, one condition behind the other.
func isCode(weights []uint8) (m int, ok bool) {
	if len(weights) < 2 || len(weights) > 256 {
		return 0, false
	}
	if weights[len(weights)-1] == 0 {
		return 0, false
	}
	ones, sum := 0, int64(0)
	for _, w := range weights {
		if w > 11 {
			return 0, false
		}
		if w == 1 {
			ones++
		}
		part := int64(1)
		for k := uint8(1); k < w; k++ {
			part *= 2
		}
		if w != 0 {
			sum += part
		}
	}
	if ones < 2 {
		return 0, false
	}
	power := int64(2)
	for m = 1; m <= 11; m++ {
		if sum == power {
			return m, true
		}
		power *= 2
	}
	return 0, false
}

// upright gives a number in n signs, the highest bit first.
func upright(x, n int) string {
	s := ""
	for range n {
		s = string(rune('0'+x%2)) + s
		x /= 2
	}
	return s
}

func turned(s string) string {
	b := []byte(s)
	slices.Reverse(b)
	return string(b)
}

// wordsModel gives each byte's word as signs, by giving out all numbers of m bits.
func wordsModel(t *testing.T, weights []uint8) []string {
	t.Helper()
	m, ok := isCode(weights)
	if !ok {
		t.Fatalf("%v make no code", weights)
	}
	all := make([]string, len(weights))
	number := 0
	for w := 1; w <= 11; w++ {
		for symbol, own := range weights {
			if int(own) != w {
				continue
			}
			all[symbol] = upright(number, m)[:m+1-w]
			for range 1 << (w - 1) {
				if !strings.HasPrefix(upright(number, m), all[symbol]) {
					t.Fatalf("%v: numbers of byte %d", weights, symbol)
				}
				number++
			}
		}
	}
	if number != 1<<m {
		t.Fatalf("%v: %d numbers were given out", weights, number)
	}
	return all
}

// signsOf gives the bits of bytes as signs, bit 0 first.
func signsOf(b []byte) string {
	var s strings.Builder
	for _, x := range b {
		s.WriteString(turned(upright(int(x), 8)))
	}
	return s.String()
}

// bytesOf gives the bytes of signs, with 0s up to the byte's end.
func bytesOf(s string) []byte {
	for len(s)%8 != 0 {
		s += "0"
	}
	b := []byte{}
	for ; s != ""; s = s[8:] {
		x := 0
		for k := range 8 {
			x = x*2 + int(s[7-k]-'0')
		}
		b = append(b, byte(x))
	}
	return b
}

// tailOf gives the bytes of a tail.
func tailOf(s string) []byte {
	return bytesOf(s + "1")
}

// signsOfTail gives the tail's bits, if there is a mark in the last byte.
func signsOfTail(b []byte) (string, bool) {
	if len(b) == 0 || b[len(b)-1] == 0 {
		return "", false
	}
	s := signsOf(b)
	return s[:strings.LastIndexByte(s, '1')], true
}

// packModel puts the words from the last byte to the first.
func packModel(t *testing.T, weights []uint8, text []byte) []byte {
	t.Helper()
	all := wordsModel(t, weights)
	var s strings.Builder
	for k := len(text) - 1; k >= 0; k-- {
		s.WriteString(turned(all[text[k]]))
	}
	return tailOf(s.String())
}

// unpackModel reads words from the end on, sign by sign.
func unpackModel(t *testing.T, weights []uint8, b []byte, n int) ([]byte, api.Errno) {
	t.Helper()
	s, ok := signsOfTail(b)
	if !ok {
		return nil, api.ErrMalformed
	}
	symbols := map[string]byte{}
	for symbol, word := range wordsModel(t, weights) {
		if word != "" {
			symbols[word] = byte(symbol)
		}
	}
	text := []byte{}
	for range n {
		word := ""
		for {
			if symbol, ok := symbols[word]; ok {
				text = append(text, symbol)
				break
			}
			if s == "" {
				return nil, api.ErrMalformed
			}
			word += s[len(s)-1:]
			s = s[:len(s)-1]
		}
	}
	if s != "" {
		return nil, api.ErrMalformed
	}
	return text, api.OK
}

// back takes a number of n bits from the end of the signs; those that are wanting count as 0.
func back(s *string, n int) (x int, there bool) {
	there = n <= len(*s)
	for range n {
		x *= 2
		if *s != "" {
			x += int((*s)[len(*s)-1] - '0')
			*s = (*s)[:len(*s)-1]
		}
	}
	return x, there
}

// toldByStates gives what h bytes of the second kind tell; at most 256 weights.
func toldByStates(b []byte) ([]uint8, bool) {
	counts, log, used, e := states.Read(b, 6, 11)
	if e != api.OK {
		return nil, false
	}
	cells, e := states.Table(counts, log)
	if e != api.OK {
		return nil, false
	}
	s, ok := signsOfTail(b[used:])
	if !ok {
		return nil, false
	}
	own, there := back(&s, log)
	if !there {
		return nil, false
	}
	other, there := back(&s, log)
	if !there {
		return nil, false
	}
	var told []uint8
	for len(told) < 256 {
		cell := cells[own]
		told = append(told, cell.Symbol)
		x, there := back(&s, int(cell.Bits))
		if !there {
			return append(told, cells[other].Symbol), true
		}
		own, other = other, int(cell.Base)+x
	}
	return told, true
}

// readModel reads a description.
func readModel(b []byte) (weights []uint8, used int, e api.Errno) {
	if len(b) == 0 {
		return nil, 0, api.ErrTruncated
	}
	h := int(b[0])
	if h >= 128 {
		used = 1 + (h-127)/2 + (h-127)%2
	} else {
		used = 1 + h
	}
	if len(b) < used {
		return nil, 0, api.ErrTruncated
	}
	var told []uint8
	if h >= 128 {
		for _, x := range b[1:used] {
			told = append(told, x/16, x%16)
		}
		told = told[:h-127]
	} else {
		var ok bool
		if told, ok = toldByStates(b[1:used]); !ok {
			return nil, 0, api.ErrMalformed
		}
	}
	if len(told) > 255 {
		return nil, 0, api.ErrMalformed
	}
	// Of all weights that could be the last one there is at most one that makes a code above all that was told.
	for w := uint8(1); w <= 11; w++ {
		all := append(slices.Clone(told), w)
		m, ok := isCode(all)
		if ok && lastIsRight(told, m) {
			return all, used, api.OK
		}
	}
	return nil, 0, api.ErrMalformed
}

// lastIsRight tells if 2^m is the least power of 2 above the sum of those told, and that sum is not 0.
func lastIsRight(told []uint8, m int) bool {
	sum := 0
	for _, w := range told {
		if w != 0 {
			sum += 1 << (w - 1)
		}
	}
	return sum > 0 && sum < 1<<m && sum >= 1<<(m-1)
}

// described gives the bytes of the second kind by which told is read, with the states in which it ends; so it has all descriptions.
func described(t *testing.T, told []uint8, counts []int16, log, last, ahead int) []byte {
	t.Helper()
	table, e := states.Write(counts, log)
	if e != api.OK {
		t.Fatalf("%v make no table of %d: %d", counts, log, int(e))
	}
	cells, _ := states.Table(counts, log)
	n := len(told)
	if cells[last].Symbol != told[n-1] || cells[ahead].Symbol != told[n-2] {
		t.Fatalf("states %d and %d don't tell %d and %d", last, ahead, told[n-1], told[n-2])
	}
	own, other := ahead, last
	s := ""
	for k := n - 3; k >= 0; k-- {
		own, other = other, own
		state := slices.IndexFunc(cells, func(c api.Cell) bool {
			return c.Symbol == told[k] && int(c.Base) <= own && own < int(c.Base)+1<<c.Bits
		})
		s += turned(upright(own-int(cells[state].Base), int(cells[state].Bits)))
		own = state
	}
	s += turned(upright(other, log)) + turned(upright(own, log))
	b := slices.Concat([]byte{0}, table, tailOf(s))
	b[0] = byte(len(b) - 1)
	return b
}

// someCode makes n weights, some 0, that make a code of 2^m.
func someCode(r *rand.Rand, n, m int) []uint8 {
	parts := []uint8{uint8(m), uint8(m)}
	// The last part is halved until it is 1; so there are two.
	for parts[len(parts)-1] > 1 {
		w := parts[len(parts)-1] - 1
		parts[len(parts)-1] = w
		parts = append(parts, w)
	}
	for range r.Intn(n) {
		k := r.Intn(len(parts))
		if parts[k] > 1 && len(parts) < n {
			parts[k]--
			parts = append(parts, parts[k])
		}
	}
	r.Shuffle(len(parts), func(i, k int) { parts[i], parts[k] = parts[k], parts[i] })
	for len(parts) < n {
		parts = slices.Insert(parts, r.Intn(len(parts)), 0)
	}
	return parts
}

// someText makes a text of bytes that have words.
func someText(r *rand.Rand, weights []uint8, n int) []byte {
	var symbols []byte
	for symbol, w := range weights {
		if w > 0 {
			symbols = append(symbols, byte(symbol))
		}
	}
	text := make([]byte, n)
	for k := range text {
		text[k] = symbols[r.Intn(len(symbols))]
	}
	return text
}

func row(n int, w uint8) []uint8 {
	return bytes.Repeat([]byte{w}, n)
}

func join(parts ...[]uint8) []uint8 {
	return slices.Concat(parts...)
}

// someCodes are codes at the chapter's edges.
func someCodes() [][]uint8 {
	return [][]uint8{
		{1, 1},
		{1, 0, 1},
		{1, 1, 2},
		{2, 1, 1},
		{1, 1, 2, 3},
		{0, 0, 1, 1, 2},
		{3, 0, 1, 2, 0, 0, 1},
		join(row(254, 0), row(2, 1)),
		join(row(1, 1), row(254, 0), row(1, 1)),
		{1, 1, 2, 3, 4, 5, 6, 7, 8, 9, 10, 11},
		{11, 10, 9, 8, 7, 6, 5, 4, 3, 2, 1, 1},
		join([]uint8{11, 10, 9, 8, 7, 6, 5, 4, 3, 2, 1}, row(244, 0), row(1, 1)),
		join([]uint8{1, 10, 9, 8, 7, 6, 5, 4, 3, 2, 1}, row(244, 0), row(1, 11)),
		row(256, 1),
		row(128, 1),
		row(64, 1),
		join(row(128, 1), row(1, 8)),
		join(row(128, 1), row(1, 0), row(1, 8)),
		join(row(240, 1), row(1, 5)),
		join(row(2, 1), row(127, 2)),
		join(row(2, 1), row(127, 5), []uint8{4, 3, 2}),
		join(row(2, 1), []uint8{2, 3}, row(63, 4), row(1, 10), row(80, 0), row(1, 11)),
	}
}
