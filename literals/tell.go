package literals

import (
	"bytes"
	"slices"

	"baler/api"
	"baler/weights"
)

// tell gives the literals that b, all that stands behind the head, tells, and the weights that hold from there on.
func tell(h head, b []byte, ahead []uint8) (lits []byte, next []uint8, ok bool) {
	switch h.kind {
	case raw:
		return slices.Clone(b), slices.Clone(ahead), true
	case oneByte:
		return bytes.Repeat(b, h.size), slices.Clone(ahead), true
	case packedAhead:
		lits, ok = unpack(h, b, ahead)
		return lits, slices.Clone(ahead), ok
	}
	next, used, e := weights.Read(b)
	if e != api.OK {
		return nil, nil, false
	}
	lits, ok = unpack(h, b[used:], next)
	return lits, next, ok
}

// unpack gives the literals of all rows; not ok, if there are none such, or if the weights make no code.
func unpack(h head, b []byte, by []uint8) ([]byte, bool) {
	rows, ok := cut(b, h.size, h.form.rows)
	if !ok {
		return nil, false
	}
	lits := make([]byte, 0, h.size)
	for _, r := range rows {
		part, e := weights.Unpack(by, r.tail, r.size)
		if e != api.OK {
			return nil, false
		}
		lits = append(lits, part...)
	}
	return lits, true
}

// row is a tail that tells so many literals.
type row struct {
	tail []byte
	size int
}

// cut gives the n rows of which b is made. Ahead of them stands how many bytes each has, but for the last one, which has what
// is left: so of a single row nothing stands there.
func cut(b []byte, size, n int) ([]row, bool) {
	each := shareOf(size, n)
	told := 2 * (n - 1)
	if len(b) < told || each*(n-1) > size {
		return nil, false
	}
	rows := make([]row, n)
	lengths, b := b[:told:told], b[told:]
	for k := range n - 1 {
		length := int(lengths[2*k]) | int(lengths[2*k+1])<<8
		if length > len(b) {
			return nil, false
		}
		rows[k] = row{tail: b[:length:length], size: each}
		b = b[length:]
	}
	rows[n-1] = row{tail: b, size: size - each*(n-1)}
	return rows, true
}

// shareOf tells how many of so many literals each of n rows has, but for the last one.
func shareOf(size, n int) int {
	return (size + n - 1) / n
}
