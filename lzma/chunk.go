package lzma

import (
	"baler/api"
	"baler/ranges"
	"baler/window"
)

// endMark is the distance, less 1, that names no byte.
const endMark = 1<<32 - 1

// reader reads the operations of one chunk.
type reader struct {
	*State
	bits   *ranges.Decoder
	window *window.Window
	told   []byte
	place  int  // at the chunk's beginning: no more of it than chances are told apart by
	ahead  bool // if a byte is ahead of the chunk
}

// chunk reads operations until n bytes are told, and then the chunk's end.
func (r *reader) chunk(n int) (told []byte, e api.Errno) {
	defer func() {
		if x := recover(); x != nil {
			told, e = nil, errorOf(x)
		}
	}()
reading:
	for len(r.told) < n {
		switch length := r.operation(); {
		case length > n-len(r.told):
			break reading
		case length > 0:
			r.putCopy(length)
		}
	}
	if len(r.told) < n || !r.ended() {
		return nil, api.ErrMalformed
	}
	return r.told, api.OK
}

// errorOf gives the error with which a panic left the reading. Any other panic goes on its way.
func errorOf(x any) api.Errno {
	e, ok := x.(api.Errno)
	if !ok {
		panic(x)
	}
	return e
}

// operation reads an operation, and tells how many bytes are to be copied: none behind a byte, which is put.
func (r *reader) operation() int {
	place := r.lowest(r.settings.pb)
	switch {
	case r.bits.Bit(&r.chances.match[r.phase][place]) == 0:
		r.putByte(r.literal())
		return 0
	case r.bits.Bit(&r.chances.repeat[r.phase]) == 0:
		return r.match(place)
	}
	return r.repeat(place)
}

// lowest tells the lowest bits of how many bytes there are since the dictionary was thrown away.
func (r *reader) lowest(bits int) int {
	return (r.place + len(r.told)) & (1<<bits - 1)
}

// literal reads a byte.
func (r *reader) literal() byte {
	t := tree(r.chances.literals[r.literalTree()][:])
	if !r.phase.copied() {
		return byte(t.read(r.bits, literalBits))
	}
	// Where no byte stands there, it counts as 0: as At tells it.
	other, _ := r.window.At(r.back())
	return t.like(r.bits, other)
}

// literalTree tells by which tree a byte is read.
func (r *reader) literalTree() int {
	var last byte
	if r.ahead || len(r.told) > 0 {
		last, _ = r.window.At(1)
	}
	return r.lowest(r.settings.lp)<<r.settings.lc | int(last)>>(8-r.settings.lc)
}

// putByte tells a byte that was read.
func (r *reader) putByte(b byte) {
	r.told = append(r.told, b)
	r.window.Put(r.told[len(r.told)-1:])
	r.phase = r.phase.behindByte()
}

// match reads a match's length and its distance, which is the newest then.
func (r *reader) match(place int) int {
	copy(r.reps[1:], r.reps[:])
	length := r.chances.matched.read(r.bits, place)
	r.phase = r.phase.behindMatch()
	r.reps[0] = r.chances.distances.read(r.bits, length)
	if r.reps[0] == endMark {
		panic(api.ErrMalformed)
	}
	return length
}

// repeat reads which of the last distances is taken again, and how many bytes are.
func (r *reader) repeat(place int) int {
	c, which := &r.chances, 0
	switch {
	case r.bits.Bit(&c.first[r.phase]) == 0:
		if r.bits.Bit(&c.long[r.phase][place]) == 0 {
			r.phase = r.phase.behindShort()
			return 1
		}
	case r.bits.Bit(&c.second[r.phase]) == 0:
		which = 1
	case r.bits.Bit(&c.third[r.phase]) == 0:
		which = 2
	default:
		which = 3
	}
	taken := r.reps[which]
	copy(r.reps[1:which+1], r.reps[:])
	r.reps[0] = taken
	length := c.repeated.read(r.bits, place)
	r.phase = r.phase.behindRepeat()
	return length
}

// back tells how far back the newest distance reaches.
func (r *reader) back() int {
	return int(r.reps[0]) + 1
}

// putCopy tells as many bytes from the newest distance back.
func (r *reader) putCopy(length int) {
	b, e := r.window.Copy(r.back(), length)
	if e != api.OK {
		panic(e)
	}
	r.told = append(r.told, b...)
}

// ended tells if the bytes of the chunk came to their end with its operations.
func (r *reader) ended() bool {
	left, e := r.bits.End()
	return left == 0 && e == api.OK
}
