package zstd

import (
	"bytes"

	"baler/api"
	"baler/literals"
	"baler/sequences"
	"baler/sums"
)

// frame is a frame as far as it was read; a skippable one stays as it is at first.
type frame struct {
	head
	sequences.Tables         // ahead of the next block
	weights          []uint8 // ahead of the next block
	distances        [3]int  // that are kept
	flags            flags
	block            block // the newest one
	content          []byte
	budget           uint64
}

func newFrame(budget int) *frame {
	return &frame{
		distances: [3]int{1, 4, 8},
		budget:    uint64(min(max(budget, 0), api.MaxWindow)),
	}
}

// read goes over all units of the member with which b begins, up to the first one that is wrong, and tells how many bytes they
// have.
func (f *frame) read(b []byte) (used int, e api.Errno) {
reading:
	for u := range units(b) {
		if e = f.look(u); e != api.OK {
			break
		}
		used += len(u.bytes)
		if u.part != blockBytes {
			continue
		}
		ahead := len(f.content)
		switch f.block.kind {
		case raw:
			f.content = append(f.content, u.bytes...)
		case alike:
			f.content = append(f.content, bytes.Repeat(u.bytes, f.block.size)...)
		case packed:
			if !f.unpack(u.bytes) {
				f.content, e = f.content[:ahead], api.ErrMalformed
				break reading
			}
		}
		if e = f.behindBlock(ahead); e != api.OK {
			break
		}
	}
	return used, e
}

// look judges a unit by itself, and keeps what the ones behind it lean on.
func (f *frame) look(u unit) api.Errno {
	if !u.whole {
		return api.ErrTruncated
	}
	ok := true
	switch u.part {
	case firstBytes:
		first := number(u.bytes)
		ok = first == frameNumber || isSkippable(first)
	case flagsByte:
		f.flags = flags(u.bytes[0])
		ok = !f.flags.reserved()
	case restOfHead:
		f.head = headOf(f.flags, u.bytes)
		return f.judgeHead()
	case blockHead:
		f.block = blockOf(u.bytes)
		ok = f.block.kind != noKind && f.block.size <= f.most()
	case sumBytes:
		ok = uint32(number(u.bytes)) == uint32(sums.XXH64(f.content))
	}
	if !ok {
		return api.ErrMalformed
	}
	return api.OK
}

func (f *frame) judgeHead() api.Errno {
	switch {
	case f.dictionary != 0:
		return api.ErrUnsupported
	case f.window > f.budget:
		return api.ErrOverBudget
	}
	return api.OK
}

// most is how long a block may be, packed and unpacked.
func (f *frame) most() int {
	return int(min(f.window, api.MaxBlock))
}

// behindBlock judges the content behind a block, ahead of which it had so many bytes. A block that makes it too long is dropped.
func (f *frame) behindBlock(ahead int) api.Errno {
	n := uint64(len(f.content))
	switch {
	case n > api.MaxContent:
		f.content = f.content[:ahead]
		return api.ErrLong
	case f.told && n > f.size:
		f.content = f.content[:ahead]
		return api.ErrMalformed
	case f.told && f.block.last && n < f.size:
		return api.ErrMalformed
	}
	return api.OK
}

// unpack puts what a packed block means behind the content; not ok, if it means nothing: then a part of it may stand there.
func (f *frame) unpack(b []byte) bool {
	lits, weights, used, e := literals.Read(b, f.weights, f.most())
	if e != api.OK {
		return false
	}
	steps, tables, e := sequences.Read(b[used:], f.Tables)
	if e != api.OK {
		return false
	}
	f.weights, f.Tables = weights, tables
	end := len(f.content) + f.most()
	for _, s := range steps {
		if s.Lits > len(lits) {
			return false
		}
		f.content = append(f.content, lits[:s.Lits]...)
		lits = lits[s.Lits:]
		if s.Match > end-len(f.content) || !f.copyBack(s) {
			return false
		}
	}
	f.content = append(f.content, lits...)
	return len(f.content) <= end
}

// copyBack puts the copy of a step behind the content; not ok, if it reaches too far.
func (f *frame) copyBack(s api.Seq) bool {
	distance, e := sequences.Value(&f.distances, s.Lits, s.Back)
	if e != api.OK || uint64(distance) > f.window || distance > len(f.content) {
		return false
	}
	from := len(f.content) - distance
	for left := s.Match; left > 0; {
		// What was copied is there to be copied again.
		n := min(left, len(f.content)-from)
		f.content = append(f.content, f.content[from:from+n]...)
		left -= n
	}
	return true
}
