package finder

// spread is an odd number whose bits stand as if by chance (2^64 divided by the golden ratio).
const spread = 0x9e3779b97f4a7c15

// roll tells a number for the span bytes at a place, which is carried on from place to place, so that a step costs the same however long the span.
type roll struct {
	b    []byte
	at   int
	span int
	sum  uint64
	lead uint64 // what the first byte of the span counts for
}

func newRoll(b []byte, span int) roll {
	r := roll{b: b, span: span, lead: 1}
	if span > len(b) {
		return r
	}
	for i, c := range b[:span] {
		r.sum = r.sum*spread + uint64(c)
		if i > 0 {
			r.lead *= spread
		}
	}
	return r
}

// key tells the number, and whether the whole span is there. Its upper bits hang on all bytes of the span.
func (r *roll) key() (uint64, bool) {
	return r.sum * spread, r.at+r.span <= len(r.b)
}

func (r *roll) step() {
	if end := r.at + r.span; end < len(r.b) {
		r.sum = (r.sum-r.lead*uint64(r.b[r.at]))*spread + uint64(r.b[end])
	}
	r.at++
}
