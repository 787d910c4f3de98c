package ranges

import "slices"

// Encoder writes bits by their probabilities.
type Encoder struct {
	low     uint64 // 33 bits: the highest one is the carry
	span    uint32 // the range
	first   byte   // the byte that waits; those that wait behind it are all FF
	waiting int    // how many wait
	out     []byte // what went out
	open    bool   // if something may still be encoded
}

// NewEncoder gives an encoder of no bits (P10.4).
func NewEncoder() *Encoder {
	return &Encoder{span: wholeSpan, waiting: 1, open: true}
}

// Bit writes a bit of this chance, which learns (P10.4).
func (e *Encoder) Bit(p *uint16, bit int) {
	if e == nil || p == nil || !e.open {
		return
	}
	c := chanceOf(*p)
	bound := c.bound(e.span)
	if bit == 0 {
		e.span = bound
	} else {
		e.low += uint64(bound)
		e.span -= bound
	}
	*p = uint16(c.learned(bit))
	e.order()
}

// Direct writes the n lowest bits of x, each as likely 0 as 1 (P10.4).
func (e *Encoder) Direct(x uint32, n int) {
	if e == nil || !e.open {
		return
	}
	for k := directBits(n) - 1; k >= 0; k-- {
		e.span >>= 1
		if x>>k&1 == 1 {
			e.low += uint64(e.span)
		}
		e.order()
	}
}

// Close ends the encoding and tells all that went out (P10.4).
func (e *Encoder) Close() []byte {
	if e == nil {
		return nil
	}
	if e.open {
		e.open = false
		for range firstBytes {
			e.shift()
		}
	}
	return slices.Clone(e.out)
}

// order makes the range great enough for the next bit.
func (e *Encoder) order() {
	for e.span < leastSpan {
		e.span <<= 8
		e.shift()
	}
}

// shift moves the uppermost byte out of low. It is let wait until no carry can come to it any more: as long as the bytes behind
// it are FF, one may.
func (e *Encoder) shift() {
	carry := byte(e.low >> 32)
putting:
	for {
		switch {
		case e.low>>24 == 0xff:
			e.waiting++
			break putting
		case e.waiting == 0:
			e.first, e.waiting = byte(e.low>>24), 1
			break putting
		}
		e.out = append(e.out, e.first+carry)
		e.first = 0xff
		e.waiting--
	}
	e.low = e.low & (1<<24 - 1) << 8
}
