package finder

import "math/bits"

// chains hold the places of like beginnings, each chain from its last place on. A place is kept as one more than it is, so that 0 is none.
type chains struct {
	roll
	shift int     // how many lower bits of a key are left out of account
	heads []int32 // by key: the last place
	older []int32 // by place, in a ring that is as long as the window: the next one in its chain
}

// A table of heads has about as many rows as there are places, within these bounds of bits.
const (
	fewestBits = 6
	mostBits   = 18
)

func newChains(b []byte, window, least int) chains {
	n := bring(bits.Len(uint(len(b))), fewestBits, mostBits)
	ring := 1 << bits.Len(uint(min(window, len(b))-1))
	return chains{newRoll(b, least), 64 - n, make([]int32, 1<<n), make([]int32, ring)}
}

// head tells the last place whose beginning is likely to be the one at the present place, or -1, also where too few bytes are left for a beginning.
func (c *chains) head() int {
	key, ok := c.key()
	if !ok {
		return -1
	}
	return int(c.heads[key>>c.shift]) - 1
}

// ahead tells the next place in the chain of one that is within the window, or -1.
func (c *chains) ahead(place int) int {
	return int(c.older[place&(len(c.older)-1)]) - 1
}

// step puts the present place into its chain, and goes on to the next one.
func (c *chains) step() {
	if key, ok := c.key(); ok {
		head := &c.heads[key>>c.shift]
		c.older[c.at&(len(c.older)-1)] = *head
		*head = int32(c.at + 1)
	}
	c.roll.step()
}

// marks hold the last places of some long beginnings. Which ones, hangs on their keys alone, so that a beginning that comes again is one of them again. By them long matches are found that lie too deep in their chains.
type marks struct {
	roll
	last map[uint64]int32 // by key: the last place, and one more
}

// A beginning has markSpan bytes at least; it is a mark if the upper markBits of its key are markSign: one of 32 is. (The sign is not 0, which is the key of bytes that are all 0.)
const (
	markSpan = 32
	markBits = 5
	markSign = 21
)

// newMarks takes beginnings that are no shorter than least, so that a mark that comes again is a match.
func newMarks(b []byte, least int) marks {
	return marks{newRoll(b, max(markSpan, least)), map[uint64]int32{}}
}

// mark tells the key at the present place, and whether it is a mark.
func (m *marks) mark() (uint64, bool) {
	key, ok := m.key()
	return key, ok && key>>(64-markBits) == markSign
}

// place tells the last place of the mark at the present one, or -1.
func (m *marks) place() int {
	if key, ok := m.mark(); ok {
		return int(m.last[key]) - 1
	}
	return -1
}

// step keeps the present place, if a mark is there, and goes on to the next one.
func (m *marks) step() {
	if key, ok := m.mark(); ok {
		m.last[key] = int32(m.at + 1)
	}
	m.roll.step()
}
