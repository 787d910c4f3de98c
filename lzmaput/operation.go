package lzmaput

// kind is a kind of operation.
type kind uint8

// Chapter 12's fourth kind, a short repeat, is not written.
const (
	literal kind = iota
	match
	repeat
)

// operation is a byte, or a copy: of so many bytes, from as far back as is told by far, of a match, or by the kept distance of this
// number, of a repeat.
type operation struct {
	kind   kind
	length int
	far    uint32 // how far back, less 1
	which  int
}

// phase is the number that chapter 12 calls the state: which operations were the last ones.
type phase uint8

const phases = 12

// copied tells if a copy was the last one.
func (p phase) copied() bool {
	return p >= 7
}

// behind gives the state behind an operation.
func (p phase) behind(k kind) phase {
	switch p {
	case 0, 1, 2, 3:
		return [...]phase{literal: 0, match: 7, repeat: 8}[k]
	case 4, 5, 6:
		return [...]phase{literal: p - 3, match: 7, repeat: 8}[k]
	case 7, 8, 9:
		return [...]phase{literal: p - 3, match: 10, repeat: 11}[k]
	}
	return [...]phase{literal: p - 6, match: 10, repeat: 11}[k]
}
