package sums

const (
	poly32 = 0xEDB88320
	mask32 = 1<<32 - 1
	poly64 = 0xC96C5795D7870F42
	mask64 = 1<<64 - 1
)

// crc is a CRC of 32 or 64 bits: as it is only ever moved right, that of 32 stays within the lowest 32 of the 64.
type crc struct {
	steps [256]uint64 // what the eight steps of a byte make of the lowest eight bits
	mask  uint64
	x     uint64
}

func newCRC(poly, mask uint64) *crc {
	c := &crc{mask: mask, x: mask}
	for i := range c.steps {
		c.steps[i] = eightSteps(uint64(i), poly)
	}
	return c
}

func eightSteps(x, poly uint64) uint64 {
	for range 8 {
		low := x & 1
		x >>= 1
		if low == 1 {
			x ^= poly
		}
	}
	return x
}

func (c *crc) add(b []byte) {
	for _, v := range b {
		c.x = c.steps[uint8(c.x)^v] ^ c.x>>8
	}
}

func (c *crc) value() uint64 {
	return c.x ^ c.mask
}
