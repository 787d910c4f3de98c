package sequences

import (
	mathbits "math/bits"
	"slices"

	"baler/api"
	"baler/states"
)

const (
	kindsOfTables = 4
	kindBits      = 2
	leastLog      = 5 // of a table that is described
)

// kind is a way to tell a table.
type kind struct {
	// read gives the table that is told next in a section.
	read func(s *section, c *coding, ahead []api.Cell) ([]api.Cell, api.Errno)
	// offer hands out tables by which some codes can be told, each with what tells it in a section.
	offer func(c *coding, codes []uint8, take func(told []byte, cells []api.Cell))
}

// kinds gives the ways to tell a table, by their numbers.
func kinds() [kindsOfTables]kind {
	return [kindsOfTables]kind{
		{read: readUntold, offer: offerUntold},
		{read: readAlone, offer: offerAlone},
		{read: readDescribed, offer: offerDescribed},
		{read: readAhead, offer: offerNothing},
	}
}

// shiftOf tells where in the byte of kinds that of a kind of values stands.
func shiftOf(values int) int {
	return 8 - kindBits*(values+1)
}

func readUntold(_ *section, c *coding, _ []api.Cell) ([]api.Cell, api.Errno) {
	return states.Table(c.counts, c.log)
}

func readAlone(s *section, c *coding, _ []api.Cell) ([]api.Cell, api.Errno) {
	code, ok := s.next()
	if !ok {
		return nil, api.ErrTruncated
	}
	if code >= c.codes {
		return nil, api.ErrMalformed
	}
	return aloneTable(uint8(code)), api.OK
}

func readDescribed(s *section, c *coding, _ []api.Cell) ([]api.Cell, api.Errno) {
	counts, log, used, e := states.Read(s.rest, c.mostLog, c.codes-1)
	switch e {
	case api.OK:
		s.rest = s.rest[used:]
		return states.Table(counts, log)
	case api.ErrTruncated:
		return nil, api.ErrTruncated
	}
	return nil, api.ErrMalformed
}

func readAhead(_ *section, c *coding, ahead []api.Cell) ([]api.Cell, api.Errno) {
	if !c.isTable(ahead) {
		return nil, api.ErrMalformed
	}
	return slices.Clone(ahead), api.OK
}

func offerUntold(c *coding, _ []uint8, take func([]byte, []api.Cell)) {
	if cells, e := states.Table(c.counts, c.log); e == api.OK {
		take(nil, cells)
	}
}

func offerAlone(_ *coding, codes []uint8, take func([]byte, []api.Cell)) {
	code := codes[0]
	if !slices.ContainsFunc(codes, func(other uint8) bool { return other != code }) {
		take([]byte{code}, aloneTable(code))
	}
}

// offerDescribed offers no table of more than twice as many states as there are codes to be told: it would hardly tell them better.
func offerDescribed(c *coding, codes []uint8, take func([]byte, []api.Cell)) {
	freq := make([]uint32, c.codes)
	for _, code := range codes {
		freq[code]++
	}
	mostLog := min(c.mostLog, max(leastLog, mathbits.Len(uint(len(codes)))))
	for log := leastLog; log <= mostLog; log++ {
		counts, e := states.Counts(freq, log)
		if e != api.OK {
			continue
		}
		told, e := states.Write(counts, log)
		if e != api.OK {
			continue
		}
		if cells, e := states.Table(counts, log); e == api.OK {
			take(told, cells)
		}
	}
}

// offerNothing: what stands ahead of a section is not known where it is written.
func offerNothing(*coding, []uint8, func([]byte, []api.Cell)) {}

// aloneTable gives the table of one code.
func aloneTable(code uint8) []api.Cell {
	return []api.Cell{{Symbol: code}}
}

// logOf tells the log of a table: below 0 of none.
func logOf(cells []api.Cell) int {
	return mathbits.Len(uint(len(cells))) - 1
}

// isTable tells if cells are those of a table for these codes: as many as a log tells, and each as chapter 7 has it, so that no
// state leads out of the table. One code alone is such a table, of log 0. Which code has which states is not looked at: steps
// can be told by any order of them.
func (c *coding) isTable(cells []api.Cell) bool {
	log := logOf(cells)
	if log != 0 && (log < leastLog || log > c.mostLog) || len(cells) != 1<<log {
		return false
	}
	var nth [mostCodes]int
	for _, cell := range cells {
		if int(cell.Symbol) >= c.codes {
			return false
		}
		nth[cell.Symbol]++
	}
	for _, cell := range cells {
		x := nth[cell.Symbol]
		nth[cell.Symbol]++
		bits := log - (mathbits.Len(uint(x)) - 1)
		if int(cell.Bits) != bits || int(cell.Base) != x<<bits-len(cells) {
			return false
		}
	}
	return true
}
