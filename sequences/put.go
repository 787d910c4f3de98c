package sequences

import (
	"math"
	mathbits "math/bits"

	"baler/api"
	"baler/tail"
)

// row is how the codes of one kind of values are told.
type row struct {
	kind  int
	told  []byte // what tells the table
	cells []api.Cell
	codes []uint8
	path  []uint16 // by code: the state that tells it
}

// lay gives the section of one step or more, all of which can be told.
func lay(l []api.Seq) []byte {
	c := codings()
	b := putNumber(len(l))
	byteOfKinds := len(b)
	b = append(b, 0)
	var rows [kindsOfValues]row
	for values := range rows {
		rows[values] = shortestRow(&c[values], codesOf(&c[values], l, values))
		b[byteOfKinds] |= byte(rows[values].kind << shiftOf(values))
		b = append(b, rows[values].told...)
	}
	return append(b, putTail(&c, l, &rows)...)
}

// putNumber tells how many steps there are, in as few bytes as can be.
func putNumber(n int) []byte {
	switch {
	case n < inTwoBytes:
		return []byte{byte(n)}
	case n < leastInThree:
		return []byte{byte(inTwoBytes + n>>8), byte(n)}
	}
	n -= leastInThree
	return []byte{inThreeBytes, byte(n), byte(n >> 8)}
}

// codesOf gives the codes of all steps' values of one kind.
func codesOf(c *coding, l []api.Seq, values int) []uint8 {
	codes := make([]uint8, len(l))
	for k, step := range l {
		codes[k] = c.codeOf(valuesOf(step)[values])
	}
	return codes
}

// shortestRow finds the table by which the codes take the fewest bits, with what tells the table.
func shortestRow(c *coding, codes []uint8) (best row) {
	fewest := math.MaxInt
	for number, way := range kinds() {
		way.offer(c, codes, func(told []byte, cells []api.Cell) {
			path, bits := pathOf(cells, codes)
			bits += 8 * len(told)
			if bits < fewest {
				best, fewest = row{kind: number, told: told, cells: cells, codes: codes, path: path}, bits
			}
		})
	}
	return best
}

// pathOf gives the states that tell the codes, each of which the table has, and how many bits all of them take. It goes from the
// last code to the first, as each state hangs on the one behind it.
func pathOf(cells []api.Cell, codes []uint8) (path []uint16, bits int) {
	own := statesOf(cells)
	log := logOf(cells)
	path, bits = make([]uint16, len(codes)), log
	last := len(codes) - 1
	path[last] = own[codes[last]][0]
	for k := last - 1; k >= 0; k-- {
		path[k] = ahead(own[codes[k]], log, path[k+1])
		bits += int(cells[path[k]].Bits)
	}
	return path, bits
}

// statesOf gives by code the states that are its own, from the least on.
func statesOf(cells []api.Cell) (own [mostCodes][]uint16) {
	for state, cell := range cells {
		own[cell.Symbol] = append(own[cell.Symbol], uint16(state))
	}
	return own
}

// ahead finds that one of a code's own states from which next is come to, without a look at each of them: by chapter 7 it is
// number x less their count, where x is what the next state and 2^log tell but for their lowest Bits bits. The first ones have one
// bit more than the last ones.
func ahead(own []uint16, log int, next uint16) uint16 {
	target, count := int(next)+1<<log, len(own)
	bits := log - (mathbits.Len(uint(count)) - 1)
	if target>>bits < count {
		bits--
	}
	return own[target>>bits-count]
}

// putTail gives the tail that tells the steps. What is read first is put last.
func putTail(c *[kindsOfValues]coding, l []api.Seq, rows *[kindsOfValues]row) []byte {
	w := &tail.Writer{}
	for k := len(l) - 1; k >= 0; k-- {
		if k < len(l)-1 {
			for turn := range nextOrder {
				rows[nextOrder[kindsOfValues-1-turn]].putNext(w, k)
			}
		}
		told := valuesOf(l[k])
		for turn := range extraOrder {
			values := extraOrder[kindsOfValues-1-turn]
			c[values].put(w, rows[values].codes[k], told[values])
		}
	}
	for turn := range rows {
		rows[kindsOfValues-1-turn].putFirst(w)
	}
	return w.Close()
}

// putNext puts how one comes from the state of a code to the next one.
func (r *row) putNext(w *tail.Writer, k int) {
	cell := r.cells[r.path[k]]
	w.Put(uint64(r.path[k+1]-cell.Base), int(cell.Bits))
}

// putFirst puts the first state.
func (r *row) putFirst(w *tail.Writer) {
	w.Put(uint64(r.path[0]), logOf(r.cells))
}
