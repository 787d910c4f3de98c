package zstd

// Kinds of blocks.
const (
	raw   = iota
	alike // one byte, many times
	packed
	noKind
)

// block is what a block's head tells.
type block struct {
	last bool
	kind int
	size int
}

func blockOf(b []byte) block {
	n := number(b)
	return block{last: n&1 == 1, kind: int(n >> 1 & 3), size: int(n >> 3)}
}

// behind tells how many bytes of the block stand behind its head.
func (x block) behind() uint64 {
	if x.kind == alike {
		return 1
	}
	return uint64(x.size)
}
