package lzma2

import (
	"iter"

	"baler/api"
)

// dear is about how many bytes that are not copied take as much as one more chunk.
const dear = 16

// part is a stretch of a text that one chunk tells, and its steps.
type part struct {
	from, end int
	steps     []api.Seq
}

// size is how many bytes the part has.
func (p part) size() int {
	return p.end - p.from
}

// parts hands out, part by part, the steps that make a text from from on; lead more bytes stand ahead of it.
func parts(l []api.Seq, from, lead int) iter.Seq[part] {
	return func(yield func(part) bool) {
		c := cutter{part: part{from: from, end: from}, lead: lead, yield: yield}
		for _, s := range l {
			if !c.add(s.Lits, 0) || !c.add(s.Match, s.Back) {
				return
			}
		}
		c.cut()
	}
}

// cutter gathers a part, and hands it out where it has to end.
type cutter struct {
	part
	lead   int
	lits   int // how many bytes stand behind the last step
	missed int // how many bytes stand too far back to be copied by this part's chunk
	yield  func(part) bool
}

// add puts n bytes behind the part, which stand so far back, or are as they are, if that is 0; not ok, if no more parts are asked
// for.
func (c *cutter) add(n, back int) bool {
	// A chunk copies from no further back than as many bytes are ahead of it, or 1. The next one would reach further.
	if back > max(c.lead+c.from, 1) {
		c.missed += n
		if c.missed > dear && !c.cut() {
			return false
		}
	}
	for n > 0 {
		now := c.room(n, back)
		c.lay(now, back)
		n -= now
		if c.size() == mostTold && !c.cut() {
			return false
		}
	}
	return true
}

// room tells how many of n bytes one step may put behind the part.
func (c *cutter) room(n, back int) int {
	n = min(n, mostTold-c.size())
	if back > 0 {
		n = min(n, longest)
	}
	return n
}

// lay puts n bytes behind the part, which has room for them.
func (c *cutter) lay(n, back int) {
	c.end += n
	if back == 0 || n < shortest {
		c.lits += n
		return
	}
	c.steps = append(c.steps, api.Seq{Lits: c.lits, Match: n, Back: back})
	c.lits = 0
}

// cut hands out the part, if it has any bytes, and begins the next one behind it; not ok, if that is not asked for.
func (c *cutter) cut() bool {
	done := c.part
	if c.lits > 0 {
		done.steps = append(done.steps, api.Seq{Lits: c.lits})
	}
	c.part = part{from: done.end, end: done.end}
	c.lits, c.missed = 0, 0
	return done.size() == 0 || c.yield(done)
}
