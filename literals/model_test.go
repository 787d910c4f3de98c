package literals

import (
	"bytes"
	"math/rand"
	"slices"
	"strings"
	"testing"

	"baler/api"
	"baler/weights"
)

// What stands here tells the chapter's words once more, in a plain and slow way, by rows of signs: the program is held against it.

// signs gives the lowest n bits of a number as signs, bit 0 first.
func signs(x, n int) string {
	s := ""
	for range n {
		s += string(rune('0' + x%2))
		x /= 2
	}
	return s
}

// number gives the number that signs tell, bit 0 first.
func number(s string) int {
	x := 0
	for k := len(s) - 1; k >= 0; k-- {
		x = x*2 + int(s[k]-'0')
	}
	return x
}

// bytesOf gives the bytes of signs, of which there are eight for each.
func bytesOf(t *testing.T, s string) []byte {
	t.Helper()
	if len(s)%8 != 0 {
		t.Fatalf("%q are no bytes", s)
	}
	var b []byte
	for ; s != ""; s = s[8:] {
		b = append(b, byte(number(s[:8])))
	}
	return b
}

// rowOfTable is a row of the chapter's table: how many bytes the head has, and of how many bits its sizes are.
type rowOfTable struct {
	bytes, bits int
	four        bool
}

// table is the chapter's table, row by row.
func table(kind, form int) rowOfTable {
	if kind == 0 || kind == 1 {
		switch form {
		case 0, 2:
			return rowOfTable{bytes: 1, bits: 5}
		case 1:
			return rowOfTable{bytes: 2, bits: 12}
		}
		return rowOfTable{bytes: 3, bits: 20}
	}
	switch form {
	case 0:
		return rowOfTable{bytes: 3, bits: 10}
	case 1:
		return rowOfTable{bytes: 3, bits: 10, four: true}
	case 2:
		return rowOfTable{bytes: 4, bits: 14, four: true}
	}
	return rowOfTable{bytes: 5, bits: 18, four: true}
}

// isPacked tells if a kind is one of the two packed ones.
func isPacked(kind int) bool {
	return kind == 2 || kind == 3
}

// headOf lays a head by hand. A size of 5 bits has form 0 or 2, as its lowest bit is.
func headOf(t *testing.T, kind, form, size, packedSize int) []byte {
	t.Helper()
	row := table(kind, form)
	if size < 0 || size>>row.bits != 0 || packedSize < 0 || packedSize>>row.bits != 0 {
		t.Fatalf("kind %d, form %d: no room for %d and %d", kind, form, size, packedSize)
	}
	if isPacked(kind) {
		return bytesOf(t, signs(kind, 2)+signs(form, 2)+signs(size, row.bits)+signs(packedSize, row.bits))
	}
	if row.bits == 5 {
		return bytesOf(t, signs(kind, 2)+"0"+signs(size, 5))
	}
	return bytesOf(t, signs(kind, 2)+signs(form, 2)+signs(size, row.bits))
}

// sectionOf lays a section by hand, of a packed kind with the size of all parts behind the head.
func sectionOf(t *testing.T, kind, form, size int, behind ...[]byte) []byte {
	t.Helper()
	all := slices.Concat(behind...)
	packedSize := 0
	if isPacked(kind) {
		packedSize = len(all)
	}
	return append(headOf(t, kind, form, size, packedSize), all...)
}

// packedBy gives the tail of some literals.
func packedBy(t *testing.T, w []uint8, lits []byte) []byte {
	t.Helper()
	b, e := weights.Pack(w, lits)
	if e != api.OK {
		t.Fatalf("Pack by %v: %d", w, int(e))
	}
	return b
}

// lengthsOf gives the six bytes that stand ahead of four rows.
func lengthsOf(first, second, third int) []byte {
	return []byte{byte(first % 256), byte(first / 256), byte(second % 256), byte(second / 256), byte(third % 256), byte(third / 256)}
}

// fourOf lays four tails behind their sizes.
func fourOf(tails [4][]byte) []byte {
	return slices.Concat(lengthsOf(len(tails[0]), len(tails[1]), len(tails[2])), tails[0], tails[1], tails[2], tails[3])
}

// tailsOf packs literals in four rows; where three rows are more than all, the last ones have fewer or none.
func tailsOf(t *testing.T, w []uint8, lits []byte) (tails [4][]byte) {
	t.Helper()
	each := (len(lits) + 3) / 4
	for k := range tails {
		part := lits[min(k*each, len(lits)):]
		if k < 3 {
			part = part[:min(each, len(part))]
		}
		tails[k] = packedBy(t, w, part)
	}
	return tails
}

// rowsOf packs literals as a form asks.
func rowsOf(t *testing.T, w []uint8, form int, lits []byte) []byte {
	t.Helper()
	if form == 0 {
		return packedBy(t, w, lits)
	}
	return fourOf(tailsOf(t, w, lits))
}

// descriptionOf gives a description of weights.
func descriptionOf(t *testing.T, w []uint8) []byte {
	t.Helper()
	b, e := weights.Write(w)
	if e != api.OK {
		t.Fatalf("Write(%v): %d", w, int(e))
	}
	return b
}

// packedSection lays a section of kind 2 or 3 by hand.
func packedSection(t *testing.T, kind, form int, w []uint8, lits []byte) []byte {
	t.Helper()
	if kind == 3 {
		return sectionOf(t, kind, form, len(lits), rowsOf(t, w, form, lits))
	}
	return sectionOf(t, kind, form, len(lits), descriptionOf(t, w), rowsOf(t, w, form, lits))
}

// answer is what Read tells.
type answer struct {
	lits []byte
	next []uint8
	used int
	e    api.Errno
}

func (a answer) same(b answer) bool {
	return bytes.Equal(a.lits, b.lits) && bytes.Equal(a.next, b.next) && a.used == b.used && a.e == b.e
}

// readModel reads a section, one condition behind the other, as P11.1 names them.
func readModel(b []byte, w []uint8, most int) answer {
	if most < 0 || most > 131072 {
		return answer{e: api.ErrArg}
	}
	if len(b) == 0 {
		return answer{e: api.ErrTruncated}
	}
	kind, form := int(b[0])%4, int(b[0])/4%4
	row := table(kind, form)
	if len(b) < row.bytes {
		return answer{e: api.ErrTruncated}
	}
	var all strings.Builder
	for _, x := range b[:row.bytes] {
		all.WriteString(signs(int(x), 8))
	}
	s := all.String()[4:]
	if row.bits == 5 {
		s = all.String()[3:]
	}
	size := number(s[:row.bits])
	if size > most {
		return answer{e: api.ErrMalformed}
	}
	rest := b[row.bytes:]
	switch kind {
	case 0:
		if len(rest) < size {
			return answer{e: api.ErrTruncated}
		}
		return answer{lits: rest[:size], next: w, used: row.bytes + size}
	case 1:
		if len(rest) < 1 {
			return answer{e: api.ErrTruncated}
		}
		var lits []byte
		for range size {
			lits = append(lits, rest[0])
		}
		return answer{lits: lits, next: w, used: row.bytes + 1}
	}
	packedSize := number(s[row.bits:])
	if len(rest) < packedSize {
		return answer{e: api.ErrTruncated}
	}
	return unpackModel(kind, row, size, rest[:packedSize], w)
}

// unpackModel reads the packed bytes.
func unpackModel(kind int, row rowOfTable, size int, b []byte, w []uint8) answer {
	wrong := answer{e: api.ErrMalformed}
	right := answer{next: w, used: row.bytes + len(b)}
	if kind == 3 {
		if _, e := weights.Write(w); e != api.OK {
			return wrong
		}
	} else {
		own, used, e := weights.Read(b)
		if e != api.OK {
			return wrong
		}
		right.next, b = own, b[used:]
	}
	if !row.four {
		lits, e := weights.Unpack(right.next, b, size)
		if e != api.OK {
			return wrong
		}
		right.lits = lits
		return right
	}
	if len(b) < 6 {
		return wrong
	}
	first, second, third := int(b[0])+256*int(b[1]), int(b[2])+256*int(b[3]), int(b[4])+256*int(b[5])
	b = b[6:]
	each := (size + 3) / 4
	if first+second+third > len(b) || 3*each > size {
		return wrong
	}
	places := [5]int{0, first, first + second, first + second + third, len(b)}
	shares := [4]int{each, each, each, size - 3*each}
	for k, share := range shares {
		part, e := weights.Unpack(right.next, b[places[k]:places[k+1]], share)
		if e != api.OK {
			return wrong
		}
		right.lits = append(right.lits, part...)
	}
	return right
}

// steep makes a code of words of 1 to 11 bits: those of 0 and 1 have 11.
func steep() []uint8 {
	return []uint8{1, 1, 2, 3, 4, 5, 6, 7, 8, 9, 10, 11}
}

// flat makes a code in which the bytes from 0 on have words of the same length.
func flat(n int) []uint8 {
	return bytes.Repeat([]byte{1}, n)
}

// noCodes are weights that make no code.
func noCodes() [][]uint8 {
	return [][]uint8{nil, {}, {1}, {0}, {0, 0}, {1, 1, 0}, {1, 1, 1}, {2, 2}, {1, 2, 2}, {12, 12}, {1, 1, 255}, bytes.Repeat([]byte{1}, 257), make([]uint8, 5000)}
}

// textOf makes a text of some of the bytes below n.
func textOf(r *rand.Rand, n, size int) []byte {
	b := make([]byte, size)
	for k := range b {
		b[k] = byte(r.Intn(n))
	}
	return b
}

// skewed makes a text in which small bytes come more often.
func skewed(r *rand.Rand, n, size int) []byte {
	b := make([]byte, size)
	for k := range b {
		b[k] = byte(r.Intn(1 + r.Intn(n)))
	}
	return b
}
