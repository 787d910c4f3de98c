package lzma2

import (
	"bytes"

	"baler/api"
	"baler/finder"
	"baler/lzmaput"
)

// By these settings no places are told apart: so a chunk may be read wherever places are counted from, as long as the bytes ahead
// of it are there.
const (
	lc = 3
	lp = 0
	pb = 0

	props = (pb*5+lp)*9 + lc
)

// How long the copies of an LZMA chunk may be, and from which length on they are worth looking for. Longer ones than there may be are
// looked for too, and cut up: what goes on and on has to be found only once.
const (
	shortest = 2
	worth    = 4
	longest  = 273
)

// mostTold is how many bytes a chunk that is written tells at most.
const mostTold = 1 << 16

// How many bytes the heads of chunks have: of bytes as they are, and of LZMA chunks at most.
const (
	plainHead  = 3
	packedHead = 6
)

// need is what the next LZMA chunk has to ask for: one of these, and all ahead of it.
type need byte

const (
	nothing need = iota
	aReset
	theSettings
	aClearing
)

// control gives the control of a chunk that asks for this, and tells no more than mostTold bytes.
func (n need) control() byte {
	return leastPacked + byte(n)*(leastReset-leastPacked)
}

// encoder writes chunks, one behind the other.
type encoder struct {
	b      []byte
	from   int
	level  int
	window int    // how far back a copy may reach
	text   []byte // b, as it is handed to the state
	lead   int    // how many bytes stand ahead of b there
	state  *lzmaput.State
	need   need
	done   int // up to where b was told
	out    []byte
}

func newEncoder(b []byte, from, level int) *encoder {
	x := &encoder{b: b, from: from, level: level, window: 1 << (16 + 2*level), text: b, need: theSettings, done: from}
	x.state, _ = lzmaput.New(lc, lp, pb)
	if from == 0 {
		x.need = aClearing
	}
	if from < x.window {
		x.putAhead()
	}
	return x
}

// putAhead puts bytes ahead of b of which b has none, if there are such. A chunk copies from no further back than as many bytes are
// ahead of it: with these more it reaches back to b's beginning. They are never copied, since they are nowhere in b, so that whoever
// reads the chunk needs none of them.
func (x *encoder) putAhead() {
	if other, ok := absent(x.b); ok {
		x.lead = mostTold
		x.text = append(bytes.Repeat([]byte{other}, x.lead), x.b...)
	}
}

// absent gives a byte that b has not.
func absent(b []byte) (other byte, ok bool) {
	for k := range 256 {
		if bytes.IndexByte(b, byte(k)) < 0 {
			return byte(k), true
		}
	}
	return 0, false
}

// write writes all chunks.
func (x *encoder) write() {
	steps := finder.Parse(x.b, x.from, x.level, x.window, worth, mostTold)
	for p := range parts(steps, x.from, x.lead) {
		x.put(p)
	}
	x.putPlain(len(x.b))
}

// put writes a part of b as an LZMA chunk, or lets it wait, to be written as it is, if the chunk saves too little: it has to make
// good for the head of one more chunk of bytes as they are, or chunks of both kinds in turn would come to more and more.
func (x *encoder) put(p part) {
	ahead := min(x.lead+p.from, x.window)
	end := x.lead + p.end
	chunk, e := x.state.Chunk(x.text[end-p.size()-ahead:end], ahead, p.from, p.steps)
	if e != api.OK || packedHead+len(chunk)+plainHead > p.size() {
		// The state has learned from a chunk that nobody reads.
		x.state.Reset()
		x.need = max(x.need, aReset)
		return
	}
	x.putPlain(p.from)
	x.putHead(x.need.control(), p.size())
	x.putCount(len(chunk))
	if x.need >= theSettings {
		x.out = append(x.out, props)
	}
	x.out = append(x.out, chunk...)
	x.need, x.done = nothing, p.end
}

// putPlain writes what waits, up to end, as it is.
func (x *encoder) putPlain(end int) {
	for x.done < end {
		n := min(end-x.done, mostTold)
		x.putHead(x.plainControl(), n)
		x.out = append(x.out, x.b[x.done:x.done+n]...)
		x.done += n
	}
}

// plainControl gives the control of the next chunk of bytes as they are, behind which a dictionary is there.
func (x *encoder) plainControl() byte {
	if x.need < aClearing {
		return onlyPlain
	}
	x.need = theSettings
	return clearingPlain
}

// putHead writes how each head begins: a control, and how many bytes the chunk tells.
func (x *encoder) putHead(control byte, told int) {
	x.out = append(x.out, control)
	x.putCount(told)
}

// putCount writes how many of something there are, as countOf reads it.
func (x *encoder) putCount(n int) {
	x.out = append(x.out, byte((n-1)>>8), byte(n-1))
}
