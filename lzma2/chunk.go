package lzma2

import "iter"

// Controls: of LZMA chunks the least one of each kind.
const (
	theEnd        = 0x00
	clearingPlain = 0x01
	onlyPlain     = 0x02
	leastPacked   = 0x80
	leastReset    = 0xA0
	leastSettings = 0xC0
	leastClearing = 0xE0
)

// upperTold is the bits of an LZMA chunk's control that stand above the two bytes which tell how many bytes it tells.
const upperTold = 0x1F

// asks is what a control asks for.
type asks struct {
	known    bool // not, if no chunk has that control
	ends     bool
	clears   bool // the dictionary is thrown away first
	packed   bool // it is an LZMA chunk
	resets   bool // its state is reset
	settings bool // it has new ones
	head     int  // how many bytes its head has
}

func asksOf(control byte) asks {
	a := asks{known: true, head: 1}
	switch {
	case control >= leastClearing:
		a.clears = true
		fallthrough
	case control >= leastSettings:
		a.settings = true
		a.head++
		fallthrough
	case control >= leastReset:
		a.resets = true
		fallthrough
	case control >= leastPacked:
		a.packed = true
		a.head += 4
	case control == clearingPlain:
		a.clears = true
		fallthrough
	case control == onlyPlain:
		a.head += 2
	case control == theEnd:
		a.ends = true
	default:
		a.known = false
	}
	return a
}

// chunk is a chunk, as far as it is there.
type chunk struct {
	asks
	begun  bool   // if its control is there
	headed bool   // if all of its head is
	whole  bool   // if all of it is
	told   int    // how many bytes it tells
	props  byte   // its settings
	bytes  []byte // what stands behind its head
}

// chunks hands out the chunks with which b begins, up to the end, or to one that is none, or not all there. They are not judged
// here: whoever goes over them leaves them where one is wrong.
func chunks(b []byte) iter.Seq[chunk] {
	return func(yield func(chunk) bool) {
		for rest := b; ; {
			c := chunkOf(rest)
			if !yield(c) || !c.whole || !c.known || c.ends {
				return
			}
			rest = rest[c.size():]
		}
	}
}

// chunkOf gives the chunk with which b begins.
func chunkOf(b []byte) (c chunk) {
	if len(b) == 0 {
		return c
	}
	c.asks, c.begun = asksOf(b[0]), true
	if len(b) < c.head {
		return c
	}
	head, rest := b[:c.head], b[c.head:]
	c.headed = true
	if has := c.readHead(head); has <= len(rest) {
		c.bytes, c.whole = rest[:has], true
	}
	return c
}

// readHead takes what the head tells, and gives how many bytes stand behind it.
func (c *chunk) readHead(head []byte) (has int) {
	switch {
	case c.packed:
		c.told = int(head[0]&upperTold)<<16 + countOf(head[1:])
		has = countOf(head[3:])
		if c.settings {
			c.props = head[5]
		}
	case len(head) > 1:
		c.told = countOf(head[1:])
		has = c.told
	}
	return has
}

// size is how many bytes the chunk has, its head with them.
func (c chunk) size() int {
	return c.head + len(c.bytes)
}

// countOf gives how many of something two bytes tell: as many less 1, the greatest byte first.
func countOf(b []byte) int {
	return int(b[0])<<8 + int(b[1]) + 1
}
