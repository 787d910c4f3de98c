package states

import (
	"math/rand"
	"strings"

	"baler/api"
)

// What stands here tells the chapter's words once more, in a plain and slow way: the program is held against it.

// isTable tells if counts make a table, one condition behind the other.
func isTable(counts []int16, log int) bool {
	if log < 5 || log > 12 {
		return false
	}
	if len(counts) > 256 {
		return false
	}
	sum := int64(0)
	for _, c := range counts {
		if c < -1 {
			return false
		}
		if c == -1 {
			sum++
		} else {
			sum += int64(c)
		}
	}
	if len(counts) > 0 && counts[len(counts)-1] == 0 {
		return false
	}
	return sum == int64(1)<<log
}

// binary gives the n lowest bits of x as signs, the lowest first.
func binary(x, n int) string {
	s := make([]byte, n)
	for k := range s {
		s[k] = byte('0' + x%2)
		x /= 2
	}
	return string(s)
}

// bytesOf gives the bytes of a row of signs; fill is what is put up to the byte's end.
func bytesOf(s string, fill string) []byte {
	for len(s)%8 != 0 {
		s += fill
	}
	var b []byte
	for ; s != ""; s = s[8:] {
		x := 0
		for k := range 8 {
			if s[k] == '1' {
				x += 1 << k
			}
		}
		b = append(b, byte(x))
	}
	return b
}

func signsOf(b []byte) string {
	var s strings.Builder
	for _, x := range b {
		s.WriteString(binary(int(x), 8))
	}
	return s.String()
}

// valueSigns tells a value v while r states are left.
func valueSigns(v, r int) string {
	m := 0
	for x := r + 1; x > 0; x /= 2 {
		m++
	}
	half := 1
	for range m - 1 {
		half *= 2
	}
	t := 2*half - 1 - (r + 1)
	if v < t {
		return binary(v, m-1)
	}
	if v < half {
		return binary(v, m)
	}
	return binary(v+t, m)
}

// describe gives the description's signs, without those up to the byte's end.
func describe(counts []int16, log int) string {
	s := binary(log-5, 4)
	r := 1 << log
	for i := 0; i < len(counts) && r > 0; i++ {
		s += valueSigns(int(counts[i])+1, r)
		if counts[i] == -1 {
			r--
		} else {
			r -= int(counts[i])
		}
		if counts[i] != 0 {
			continue
		}
		more := 0
		for i+1 < len(counts) && counts[i+1] == 0 {
			i++
			more++
		}
		for more >= 3 {
			s += "11"
			more -= 3
		}
		s += binary(more, 2)
	}
	return s
}

// number reads n signs, if they are there.
func number(s *string, n int) (int, bool) {
	if len(*s) < n {
		return 0, false
	}
	x := 0
	for k := range n {
		if (*s)[k] == '1' {
			x += 1 << k
		}
	}
	*s = (*s)[n:]
	return x, true
}

// readModel reads as the chapter's words in brackets have it: m - 1 bits, then perhaps one more.
func readModel(b []byte, mostLog, mostSymbol int) (counts []int16, log, used int, e api.Errno) {
	if mostLog < 5 || mostLog > 12 || mostSymbol < 0 || mostSymbol > 255 {
		return nil, 0, 0, api.ErrArg
	}
	s := signsOf(b)
	all := len(s)
	x, ok := number(&s, 4)
	if !ok {
		return nil, 0, 0, api.ErrTruncated
	}
	log = x + 5
	if log > mostLog {
		return nil, 0, 0, api.ErrMalformed
	}
	r := 1 << log
	for r > 0 {
		if len(counts) > mostSymbol {
			return nil, 0, 0, api.ErrMalformed
		}
		m := 1
		for 1<<m <= r+1 {
			m++
		}
		t := 1<<m - 1 - (r + 1)
		v, ok := number(&s, m-1)
		if !ok {
			return nil, 0, 0, api.ErrTruncated
		}
		if v >= t {
			bit, ok := number(&s, 1)
			if !ok {
				return nil, 0, 0, api.ErrTruncated
			}
			v += bit << (m - 1)
			if v >= 1<<(m-1) {
				v -= t
			}
		}
		counts = append(counts, int16(v-1))
		if v == 0 {
			r--
		} else {
			r -= v - 1
		}
		for zeros := 3; v == 1 && zeros == 3; {
			if len(counts) > mostSymbol {
				return nil, 0, 0, api.ErrMalformed
			}
			if zeros, ok = number(&s, 2); !ok {
				return nil, 0, 0, api.ErrTruncated
			}
			for range zeros {
				counts = append(counts, 0)
			}
		}
	}
	return counts, log, (all - len(s) + 7) / 8, api.OK
}

// tableModel gives the cells of counts that make a table.
func tableModel(counts []int16, log int) []api.Cell {
	size := 1 << log
	symbols := make([]int, size)
	h := size
	for s, c := range counts {
		if c == -1 {
			h--
			symbols[h] = s
		}
	}
	state := 0
	for s, c := range counts {
		for k := int16(0); k < c; k++ {
			symbols[state] = s
			for {
				state = (state + size/2 + size/8 + 3) % size
				if state < h {
					break
				}
			}
		}
	}
	cells := make([]api.Cell, size)
	for at, s := range symbols {
		x := int(counts[s])
		if x == -1 {
			x = 1
		}
		for _, other := range symbols[:at] {
			if other == s {
				x++
			}
		}
		whole := 0
		for 2<<whole <= x {
			whole++
		}
		bits := log - whole
		cells[at] = api.Cell{Symbol: uint8(s), Bits: uint8(bits), Base: uint16(x*(1<<bits) - size)}
	}
	return cells
}

// aheadModel looks at all states.
func aheadModel(t []api.Cell, symbol uint8, next int64) (int, bool) {
	for at, c := range t {
		if c.Symbol != symbol || int64(c.Base) > next {
			continue
		}
		if c.Bits > 62 || int64(c.Base)+int64(1)<<c.Bits > next {
			return at, true
		}
	}
	return 0, false
}

// someCounts makes counts of at most most symbols that make a table: many of them 0, 1, -1, in runs.
func someCounts(r *rand.Rand, log, most int) []int16 {
	rest := 1 << log
	var counts []int16
	for rest > 0 && len(counts) < most-1 {
		switch r.Intn(8) {
		case 0, 1:
			counts = append(counts, -1)
			rest--
		case 2, 3:
			counts = append(counts, 1)
			rest--
		case 4:
			for k := r.Intn(10); k >= 0 && len(counts) < most-1; k-- {
				counts = append(counts, 0)
			}
		case 5, 6:
			c := 1 + r.Intn(1+rest/8)
			counts = append(counts, int16(c))
			rest -= c
		default:
			c := 1 + r.Intn(rest)
			counts = append(counts, int16(c))
			rest -= c
		}
	}
	if rest > 0 {
		counts = append(counts, int16(rest))
	}
	return counts
}
