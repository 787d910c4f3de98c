package ranges

const (
	chanceBits  = 11 // a chance is out of 2^11
	leastChance = 31
	mostChance  = 1<<chanceBits - leastChance
	learnBits   = 5 // learning goes by a 2^5th of what is wanting
)

// chance tells how often, out of 2048, a bit is 0.
type chance uint16

// chanceOf brings a number into the chances that are used: none is so near to an end that a bit would get nothing of the range.
func chanceOf(x uint16) chance {
	return chance(min(max(x, leastChance), mostChance))
}

// bound tells how much of a range is the bit 0's.
func (c chance) bound(span uint32) uint32 {
	return span >> chanceBits * uint32(c)
}

// learned gives the chance behind a bit. It leads from no chance that is used to one that is not.
func (c chance) learned(bit int) chance {
	if bit == 0 {
		return c + (1<<chanceBits-c)>>learnBits
	}
	return c - c>>learnBits
}
