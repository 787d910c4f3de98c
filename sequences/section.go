package sequences

import (
	"baler/api"
	"baler/tail"
)

const (
	inTwoBytes   = 128 // first bytes from here on tell a number in two bytes
	inThreeBytes = 255
	// leastInThree is the least number that three bytes tell.
	leastInThree = (inThreeBytes - inTwoBytes) << 8
)

// section is what is left of a section's bytes.
type section struct {
	rest []byte
}

// next gives the next byte; not ok, if there is none.
func (s *section) next() (x int, ok bool) {
	if len(s.rest) == 0 {
		return 0, false
	}
	x, s.rest = int(s.rest[0]), s.rest[1:]
	return x, true
}

// number gives how many steps there are; not ok, if the bytes end within that.
func (s *section) number() (n int, ok bool) {
	first, ok := s.next()
	if !ok || first < inTwoBytes {
		return first, ok
	}
	second, ok := s.next()
	if !ok || first < inThreeBytes {
		return (first-inTwoBytes)<<8 + second, ok
	}
	third, ok := s.next()
	return second + third<<8 + leastInThree, ok
}

// tables gives the tables by which the steps are told, all in new memory.
func (s *section) tables(c *[kindsOfValues]coding, ahead [kindsOfValues][]api.Cell) (used [kindsOfValues][]api.Cell, e api.Errno) {
	told, ok := s.next()
	if !ok {
		return used, api.ErrTruncated
	}
	// The lowest bits tell no kind.
	if told%(1<<kindBits) != 0 {
		return used, api.ErrMalformed
	}
	ways := kinds()
	for values := range used {
		way := ways[told>>shiftOf(values)%kindsOfTables]
		used[values], e = way.read(s, &c[values], ahead[values])
		if e != api.OK {
			break
		}
	}
	return used, e
}

// steps gives n steps; not ok, if what is left of the section is not just the tail that tells them.
func (s *section) steps(n int, c *[kindsOfValues]coding, tables [kindsOfValues][]api.Cell) (l []api.Seq, ok bool) {
	r, e := tail.New(s.rest)
	if e != api.OK {
		return nil, false
	}
	var at [kindsOfValues]api.Cell
	for values, cells := range tables {
		at[values] = cells[r.Bits(logOf(cells))]
	}
telling:
	for {
		var told [kindsOfValues]int
		for _, values := range extraOrder {
			told[values] = c[values].read(r, at[values].Symbol)
		}
		l = append(l, stepOf(told))
		if len(l) == n {
			break
		}
		for _, values := range nextOrder {
			cell := at[values]
			at[values] = tables[values][int(cell.Base)+int(r.Bits(int(cell.Bits)))]
			// Bits that are wanting do not come any more, however many steps are to follow.
			if r.Left() < 0 {
				break telling
			}
		}
	}
	return l, r.Left() == 0
}
