package zstd

import "iter"

// part is what a unit is of its member.
type part int

const (
	firstBytes part = iota // which kind of member it is
	skippedSize
	skippedBytes
	flagsByte
	restOfHead
	blockHead
	blockBytes
	sumBytes
)

const (
	frameNumber   = 0xFD2FB528
	leastSkipped  = 0x184D2A50
	mostSkipped   = 0x184D2A5F
	numberSize    = 4 // of the first bytes, of a skipped size and of a sum
	blockHeadSize = 3
)

// unit is a stretch of a member that is taken at once.
type unit struct {
	part  part
	bytes []byte
	whole bool // not, if the bytes end within it
}

// endsHead tells if the unit is the last one of its member's head.
func (u unit) endsHead() bool {
	return u.part == skippedSize || u.part == restOfHead
}

// units hands out the units of the member with which b begins, in their order; one within which b ends is the last. They are not
// judged here: whoever goes over them leaves them where one is wrong.
func units(b []byte) iter.Seq[unit] {
	return func(yield func(unit) bool) {
		c := cutter{rest: b, yield: yield}
		first, ok := c.cut(firstBytes, numberSize)
		switch {
		case !ok:
		case isSkippable(number(first)):
			c.skippable()
		case number(first) == frameNumber:
			c.frame()
		}
	}
}

// cutter cuts units off the beginning of what is left.
type cutter struct {
	rest  []byte
	yield func(unit) bool
}

// cut hands out the next unit; not ok, if none may follow.
func (c *cutter) cut(p part, size uint64) (b []byte, ok bool) {
	if size > uint64(len(c.rest)) {
		c.yield(unit{part: p})
		return nil, false
	}
	b, c.rest = c.rest[:size:size], c.rest[size:]
	return b, c.yield(unit{part: p, bytes: b, whole: true})
}

func (c *cutter) skippable() {
	if size, ok := c.cut(skippedSize, numberSize); ok {
		c.cut(skippedBytes, number(size))
	}
}

func (c *cutter) frame() {
	b, ok := c.cut(flagsByte, 1)
	if !ok {
		return
	}
	d := flags(b[0])
	_, ok = c.cut(restOfHead, d.behind())
	for last := false; ok && !last; {
		if b, ok = c.cut(blockHead, blockHeadSize); !ok {
			return
		}
		next := blockOf(b)
		_, ok = c.cut(blockBytes, next.behind())
		last = next.last
	}
	if ok && d.summed() {
		c.cut(sumBytes, numberSize)
	}
}

func isSkippable(first uint64) bool {
	return leastSkipped <= first && first <= mostSkipped
}

// number gives the number that at most 8 bytes tell, the lowest byte first.
func number(b []byte) (n uint64) {
	for k, x := range b {
		n |= uint64(x) << (8 * k)
	}
	return n
}
