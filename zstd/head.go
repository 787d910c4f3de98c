package zstd

// Places in the byte that tells which other bytes a frame's head has.
const (
	dictionaryFrom = 0
	sumFrom        = 2
	reservedFrom   = 3
	singleFrom     = 5
	sizeFrom       = 6
)

// flags is the byte that tells which other bytes a frame's head has.
type flags byte

func (d flags) has(bit int) bool {
	return d>>bit&1 == 1
}

func (d flags) single() bool   { return d.has(singleFrom) }
func (d flags) summed() bool   { return d.has(sumFrom) }
func (d flags) reserved() bool { return d.has(reservedFrom) }

// windowBytes, dictionaryBytes and sizeBytes tell how many bytes the head has for each, in the order in which they stand.
func (d flags) windowBytes() int {
	if d.single() {
		return 0
	}
	return 1
}

func (d flags) dictionaryBytes() int {
	return [...]int{0, 1, 2, 4}[d>>dictionaryFrom&3]
}

func (d flags) sizeBytes() int {
	form := d >> sizeFrom & 3
	if form == 0 && d.single() {
		return 1
	}
	return [...]int{0, 2, 4, 8}[form]
}

// behind tells how many bytes of the head stand behind this one.
func (d flags) behind() uint64 {
	return uint64(d.windowBytes() + d.dictionaryBytes() + d.sizeBytes())
}

// head is what a frame's head tells. Its numbers may be above any int.
type head struct {
	window     uint64
	dictionary uint64
	size       uint64 // of the content
	told       bool   // if there is a size
}

// headOf gives the head of which b is all that stands behind the flags.
func headOf(d flags, b []byte) head {
	window, b := b[:d.windowBytes()], b[d.windowBytes():]
	dictionary, size := b[:d.dictionaryBytes()], b[d.dictionaryBytes():]
	h := head{dictionary: number(dictionary), size: number(size), told: len(size) > 0}
	if len(size) == 2 {
		// Sizes below 256 have one byte.
		h.size += 256
	}
	if d.single() {
		h.window = max(h.size, 1)
	} else {
		h.window = windowOf(window[0])
	}
	return h
}

// windowOf gives the window that a byte tells: a power of 2, and some eighths of it.
func windowOf(w byte) uint64 {
	power := uint64(1) << (10 + w/8)
	return power + power/8*uint64(w%8)
}
