package lzmaput

import (
	"baler/api"
	"baler/ranges"
)

// writer writes the operations of one chunk.
type writer struct {
	*State
	out   *ranges.Encoder
	text  []byte
	from  int  // where in the text the chunk begins
	at    int  // where in the text the next operation stands
	place int  // at the chunk's beginning: no more of it than chances are told apart by
	ahead bool // if a byte is ahead of the chunk
}

// chunk writes all steps, and tells what was written.
func (w *writer) chunk(l []api.Seq) []byte {
	// The window of whoever reads need not hold more bytes than those ahead of the chunk; no window is of less than one.
	reach := max(w.from, 1)
	// The last byte is written as one. Else the next chunk might begin with a byte that is written by one that stands further back
	// than what is handed in with that chunk.
	last := len(w.text) - 1
	split := func(s api.Seq) {
		w.single(s.Lits)
		left := s.Match
		if o, ok := w.copying(min(left, last-w.at), s.Back, reach); ok {
			w.put(o)
			left -= o.length
		}
		w.single(left)
	}
	for _, s := range l {
		split(s)
	}
	return w.out.Close()
}

// single writes so many bytes, one by one.
func (w *writer) single(n int) {
	for range n {
		w.put(operation{kind: literal, length: 1})
	}
}

// copying tells the operation that copies so many bytes, if there is one. A kept distance at which the same bytes stand is told in
// fewer bits than any other.
func (w *writer) copying(length, back, reach int) (operation, bool) {
	if length < shortest {
		return operation{}, false
	}
	for which, far := range w.reps {
		if kept := int(far) + 1; kept <= reach && stands(w.text, w.at, length, kept) {
			return operation{kind: repeat, length: length, which: which}, true
		}
	}
	if back > reach {
		return operation{}, false
	}
	return operation{kind: match, length: length, far: uint32(back - 1)}, true
}

// put writes an operation.
func (w *writer) put(o operation) {
	s, place := int(w.phase), w.lowest(w.settings.pb)
	copied, repeated := row(w.chances.match[s][:]), row(w.chances.repeat[:])
	switch o.kind {
	case literal:
		copied.bit(w.out, place, 0)
		w.putByte()
	case match:
		copied.bit(w.out, place, 1)
		repeated.bit(w.out, s, 0)
		w.putMatch(o, place)
	case repeat:
		copied.bit(w.out, place, 1)
		repeated.bit(w.out, s, 1)
		w.putRepeat(o, place)
	}
	w.phase = w.phase.behind(o.kind)
	w.at += o.length
}

// lowest tells the lowest bits of how many bytes there are since the dictionary was thrown away.
func (w *writer) lowest(bits int) int {
	return (w.place + w.at - w.from) & (1<<bits - 1)
}

// putByte writes the next byte.
func (w *writer) putByte() {
	r, next := row(w.chances.literals[w.literalTree()][:]), w.text[w.at]
	switch {
	case w.phase.copied():
		// The copy ahead was of this chunk and reached no further back than the text does, so there is a byte.
		r.like(w.out, next, w.text[w.at-1-int(w.reps[0])])
	default:
		r.tree(w.out, int(next), literalBits)
	}
}

// literalTree tells by which tree the next byte is written.
func (w *writer) literalTree() int {
	var last byte
	if w.at > w.from || w.at > 0 && w.ahead {
		last = w.text[w.at-1]
	}
	return w.lowest(w.settings.lp)<<w.settings.lc | int(last)>>(8-w.settings.lc)
}

// putMatch writes a match's length and its distance, which is the newest then.
func (w *writer) putMatch(o operation, place int) {
	w.chances.matched.put(w.out, place, o.length)
	w.chances.distances.put(w.out, o.length, o.far)
	copy(w.reps[1:], w.reps[:])
	w.reps[0] = o.far
}

// putRepeat writes which of the last distances is taken again, and a length.
func (w *writer) putRepeat(o operation, place int) {
	c, s := &w.chances, int(w.phase)
	first, second, third := row(c.first[:]), row(c.second[:]), row(c.third[:])
	switch o.which {
	case 0:
		first.bit(w.out, s, 0)
		row(c.long[s][:]).bit(w.out, place, 1)
	case 1:
		first.bit(w.out, s, 1)
		second.bit(w.out, s, 0)
	case 2, 3:
		first.bit(w.out, s, 1)
		second.bit(w.out, s, 1)
		third.bit(w.out, s, o.which-2)
	}
	c.repeated.put(w.out, place, o.length)
	taken := w.reps[o.which]
	copy(w.reps[1:o.which+1], w.reps[:])
	w.reps[0] = taken
}
