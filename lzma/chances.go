package lzma

import "baler/ranges"

const (
	evenChance = 1024
	places     = 1 << mostPb // the places that are told apart, whatever the settings

	slotBits    = 6
	lengthSets  = 4  // of slots: for the lengths 2, 3, 4, and from 5 on
	firstTree   = 4  // the first slot behind which a tree tells more
	firstDirect = 14 // the first slot behind which direct bits tell more
	alignBits   = 4
	treeChances = 115 // the trees of all slots from firstTree up to firstDirect, one behind the other

	literalBits = 8
)

// tree is the chances of a tree: number 1 is the first one, number 0 stands there for nothing.
type tree []uint16

// walk asks bit by bit from number m on, until m is at least end, and tells by how much it is more.
func (t tree) walk(bits *ranges.Decoder, m, end int) int {
	for m < end {
		m = 2*m + bits.Bit(&t[m])
	}
	return m - end
}

// read asks for a number of n bits, the highest first.
func (t tree) read(bits *ranges.Decoder, n int) int {
	return t.walk(bits, 1, 1<<n)
}

// backwards asks for a number of n bits, the lowest first.
func (t tree) backwards(bits *ranges.Decoder, n int) uint32 {
	m, told := 1, uint32(0)
	for k := range n {
		bit := bits.Bit(&t[m])
		m = 2*m + bit
		told |= uint32(bit) << k
	}
	return told
}

// like asks for a byte that is likely to be like another one: as long as it is, each bit of that has chances of its own.
func (t tree) like(bits *ranges.Decoder, other byte) byte {
	m := 1
	for k := literalBits - 1; k >= 0; k-- {
		likely := int(other >> k & 1)
		bit := bits.Bit(&t[(1+likely)<<literalBits+m])
		m = 2*m + bit
		if bit != likely {
			break
		}
	}
	return byte(t.walk(bits, m, 1<<literalBits))
}

// reset makes all chances even.
func (t tree) reset() {
	for k := range t {
		t[k] = evenChance
	}
}

// lengths are the chances of a set of lengths.
type lengths struct {
	above [2]uint16 // if it is above the short ones, above the middle ones
	short [places][1 << 3]uint16
	mid   [places][1 << 3]uint16
	long  [1 << 8]uint16
}

// read asks for a length.
func (l *lengths) read(bits *ranges.Decoder, place int) int {
	switch {
	case bits.Bit(&l.above[0]) == 0:
		return 2 + tree(l.short[place][:]).read(bits, 3)
	case bits.Bit(&l.above[1]) == 0:
		return 10 + tree(l.mid[place][:]).read(bits, 3)
	}
	return 18 + tree(l.long[:]).read(bits, 8)
}

func (l *lengths) reset() {
	tree(l.above[:]).reset()
	for k := range places {
		tree(l.short[k][:]).reset()
		tree(l.mid[k][:]).reset()
	}
	tree(l.long[:]).reset()
}

// distances are the chances of distances.
type distances struct {
	slots [lengthSets][1 << slotBits]uint16
	trees [treeChances]uint16
	align [1 << alignBits]uint16
}

// read asks for a distance, less 1, of a match of this length.
func (d *distances) read(bits *ranges.Decoder, length int) uint32 {
	slot := tree(d.slots[min(length, lengthSets+1)-2][:]).read(bits, slotBits)
	if slot < firstTree {
		return uint32(slot)
	}
	k := slot/2 - 1
	base := uint32(2+slot&1) << k
	if slot < firstDirect {
		return base + tree(d.trees[int(base)-slot:]).backwards(bits, k)
	}
	direct := bits.Direct(k-alignBits) << alignBits
	return base + direct + tree(d.align[:]).backwards(bits, alignBits)
}

func (d *distances) reset() {
	for k := range d.slots {
		tree(d.slots[k][:]).reset()
	}
	tree(d.trees[:]).reset()
	tree(d.align[:]).reset()
}

// chances are all chances of a state.
type chances struct {
	match, long                  [phases][places]uint16
	repeat, first, second, third [phases]uint16

	// Each literal has a tree for itself and, behind it, one for each bit of the byte to which it is likely to be like.
	literals  [1 << mostLcAndLp][3 << literalBits]uint16
	matched   lengths
	repeated  lengths
	distances distances
}

func (c *chances) reset() {
	for k := range phases {
		tree(c.match[k][:]).reset()
		tree(c.long[k][:]).reset()
	}
	for _, t := range []tree{c.repeat[:], c.first[:], c.second[:], c.third[:]} {
		t.reset()
	}
	for k := range c.literals {
		tree(c.literals[k][:]).reset()
	}
	c.matched.reset()
	c.repeated.reset()
	c.distances.reset()
}
