package literals

// Kinds of sections.
const (
	raw = iota
	oneByte
	packed
	packedAhead // by the weights ahead
)

// form is how a head tells its sizes, and in how many rows packed literals stand behind it.
type form struct {
	bytes int // of the head
	from  int // the bit with which the size begins
	bits  int // of the size, and as many of the packed size, where there is one
	rows  int // 0, where nothing is packed
}

// forms has the forms of raw and oneByte, then those of the two packed kinds.
var forms = [2][4]form{
	{{1, 3, 5, 0}, {2, 4, 12, 0}, {1, 3, 5, 0}, {3, 4, 20, 0}},
	{{3, 4, 10, 1}, {3, 4, 10, 4}, {4, 4, 14, 4}, {5, 4, 18, 4}},
}

// head is what a section's head tells.
type head struct {
	kind   int
	form   form
	size   int // of the literals
	packed int // of the bytes behind the head, where they are packed
}

// readHead reads the head with which b begins; not ok, if b ends ahead of its end.
func readHead(b []byte) (h head, ok bool) {
	if len(b) == 0 {
		return head{}, false
	}
	h.kind = int(b[0] & 3)
	h.form = forms[h.kind/2][b[0]>>2&3]
	if len(b) < h.form.bytes {
		return head{}, false
	}
	number := uint64(0)
	for k, x := range b[:h.form.bytes] {
		number |= uint64(x) << (8 * k)
	}
	mask := uint64(1)<<h.form.bits - 1
	h.size = int(number >> h.form.from & mask)
	if h.form.rows > 0 {
		h.packed = int(number >> (h.form.from + h.form.bits) & mask)
	}
	return h, true
}

// behind tells how many bytes of the section stand behind its head.
func (h head) behind() int {
	switch h.kind {
	case raw:
		return h.size
	case oneByte:
		return 1
	}
	return h.packed
}

// putHead gives the head of a section with so many literals, told by so many bytes behind it, of which a packed kind has fewer
// than literals: so the first form that has room for these has room for both.
func putHead(kind, size, behind int) []byte {
	which, f := formFor(kind, size)
	number := uint64(kind) | uint64(which)<<2 | uint64(size)<<f.from
	if f.rows > 0 {
		number |= uint64(behind) << (f.from + f.bits)
	}
	b := make([]byte, f.bytes)
	for k := range b {
		b[k] = byte(number >> (8 * k))
	}
	return b
}

// formFor finds the first form of a kind that has room for a size. The last one has room for every block.
func formFor(kind, size int) (which int, f form) {
	for which, f = range forms[kind/2] {
		if size>>f.bits == 0 {
			break
		}
	}
	return which, f
}
