package lzmaput

import (
	"math/bits"

	"baler/ranges"
)

const (
	evenChance = 1024
	places     = 1 << mostPb // the places that are told apart, whatever the settings

	slotBits    = 6
	lengthSets  = 4  // of slots: for the lengths 2, 3, 4, and from 5 on
	firstTree   = 4  // the first slot behind which a tree tells more
	firstDirect = 14 // the first slot behind which direct bits tell more
	alignBits   = 4
	treeChances = 115 // the trees of all slots from firstTree up to firstDirect, one behind the other

	literalBits = 8
)

// row is chances in a row. Of a tree number 1 is the first one, and number 0 stands there for nothing.
type row []uint16

// bit writes a bit by the chance of this number.
func (r row) bit(out *ranges.Encoder, number, bit int) {
	out.Bit(&r[number], bit)
}

// walk writes the n lowest bits of x, the highest first, from number m of a tree on.
func (r row) walk(out *ranges.Encoder, m, x, n int) {
	for k := n - 1; k >= 0; k-- {
		bit := x >> k & 1
		r.bit(out, m, bit)
		m = 2*m + bit
	}
}

// tree writes a number of n bits, the highest first.
func (r row) tree(out *ranges.Encoder, x, n int) {
	r.walk(out, 1, x, n)
}

// backwards writes the n lowest bits of x, the lowest first.
func (r row) backwards(out *ranges.Encoder, x uint32, n int) {
	m := 1
	for k := range n {
		bit := int(x >> k & 1)
		r.bit(out, m, bit)
		m = 2*m + bit
	}
}

// like writes a byte that is likely to be like another one: as long as it is, each bit of that has chances of its own.
func (r row) like(out *ranges.Encoder, x, other byte) {
	m := 1
	for k := literalBits - 1; k >= 0; k-- {
		likely, bit := int(other>>k&1), int(x>>k&1)
		r.bit(out, (1+likely)<<literalBits+m, bit)
		m = 2*m + bit
		if bit != likely {
			r.walk(out, m, int(x), k)
			return
		}
	}
}

// reset makes all chances even.
func (r row) reset() {
	for k := range r {
		r[k] = evenChance
	}
}

// lengths are the chances of a set of lengths.
type lengths struct {
	above [2]uint16 // if it is above the short ones, above the middle ones
	short [places][1 << 3]uint16
	mid   [places][1 << 3]uint16
	long  [1 << 8]uint16
}

// put writes a length.
func (l *lengths) put(out *ranges.Encoder, place, length int) {
	above := row(l.above[:])
	switch {
	case length < 10:
		above.bit(out, 0, 0)
		row(l.short[place][:]).tree(out, length-2, 3)
	case length < 18:
		above.bit(out, 0, 1)
		above.bit(out, 1, 0)
		row(l.mid[place][:]).tree(out, length-10, 3)
	default:
		above.bit(out, 0, 1)
		above.bit(out, 1, 1)
		row(l.long[:]).tree(out, length-18, 8)
	}
}

func (l *lengths) reset() {
	row(l.above[:]).reset()
	for k := range places {
		row(l.short[k][:]).reset()
		row(l.mid[k][:]).reset()
	}
	row(l.long[:]).reset()
}

// distances are the chances of distances.
type distances struct {
	slots [lengthSets][1 << slotBits]uint16
	trees [treeChances]uint16
	align [1 << alignBits]uint16
}

// put writes a distance, less 1, of a match of this length.
func (d *distances) put(out *ranges.Encoder, length int, far uint32) {
	slot, base, k := slotOf(far)
	row(d.slots[min(length, lengthSets+1)-2][:]).tree(out, slot, slotBits)
	switch rest := far - base; {
	case slot < firstTree:
	case slot < firstDirect:
		row(d.trees[int(base)-slot:]).backwards(out, rest, k)
	default:
		out.Direct(rest>>alignBits, k-alignBits)
		row(d.align[:]).backwards(out, rest, alignBits)
	}
}

// slotOf tells the slot of a distance, the least distance of that slot, and how many bits tell which of the slot's distances it is.
func slotOf(far uint32) (slot int, base uint32, k int) {
	if far < firstTree {
		return int(far), far, 0
	}
	k = bits.Len32(far) - 2
	highest := far >> k // the two highest bits: 2 or 3
	return 2*k + int(highest), highest << k, k
}

func (d *distances) reset() {
	for k := range d.slots {
		row(d.slots[k][:]).reset()
	}
	row(d.trees[:]).reset()
	row(d.align[:]).reset()
}

// chances are all chances of a state.
type chances struct {
	match, long                  [phases][places]uint16
	repeat, first, second, third [phases]uint16

	// Each literal has a tree for itself and, behind it, one for each bit of the byte to which it is likely to be like.
	literals  [1 << mostLcAndLp][3 << literalBits]uint16
	matched   lengths
	repeated  lengths
	distances distances
}

func (c *chances) reset() {
	for k := range phases {
		row(c.match[k][:]).reset()
		row(c.long[k][:]).reset()
	}
	for _, r := range []row{c.repeat[:], c.first[:], c.second[:], c.third[:]} {
		r.reset()
	}
	for k := range c.literals {
		row(c.literals[k][:]).reset()
	}
	c.matched.reset()
	c.repeated.reset()
	c.distances.reset()
}
