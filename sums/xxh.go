package sums

const (
	p1 uint64 = 0x9E3779B185EBCA87
	p2 uint64 = 0xC2B2AE3D27D4EB4F
	p3 uint64 = 0x165667B19E3779F9
	p4 uint64 = 0x85EBCA77C2B2AE63
	p5 uint64 = 0x27D4EB2F165667C5
)

const stripe = 32 // bytes that go into the four numbers at once

// xxh is an XXH64: what is behind the last whole stripe waits in rest, since the end treats it otherwise.
type xxh struct {
	four [4]uint64
	rest [stripe]byte
	n    uint64 // how many bytes were added
}

func newXXH() *xxh {
	one := p1 // a constant would not wrap round
	return &xxh{four: [4]uint64{one + p2, p2, 0, -one}}
}

func (x *xxh) add(b []byte) {
	for len(b) > 0 {
		held := x.held()
		took := copy(x.rest[held:], b)
		x.n += uint64(took)
		b = b[took:]
		if held+took == stripe {
			x.takeStripe()
		}
	}
}

// held tells how many bytes wait.
func (x *xxh) held() int {
	return int(x.n % stripe)
}

func (x *xxh) takeStripe() {
	for i, a := range x.four {
		x.four[i] = round(a, number(x.rest[8*i:8*i+8]))
	}
}

func (x *xxh) value() uint64 {
	h := x.begin() + x.n
	h = takeRest(h, x.rest[:x.held()])
	h = (h ^ h>>33) * p2
	h = (h ^ h>>29) * p3
	return h ^ h>>32
}

// begin gives what the whole stripes make.
func (x *xxh) begin() uint64 {
	if x.n < stripe {
		return p5
	}
	h := turn(x.four[0], 1) + turn(x.four[1], 7) + turn(x.four[2], 12) + turn(x.four[3], 18)
	for _, a := range x.four {
		h = (h^round(0, a))*p1 + p4
	}
	return h
}

func takeRest(h uint64, b []byte) uint64 {
	for len(b) >= 8 {
		h = turn(h^round(0, number(b[:8])), 27)*p1 + p4
		b = b[8:]
	}
	if len(b) >= 4 {
		h = turn(h^number(b[:4])*p1, 23)*p2 + p3
		b = b[4:]
	}
	for _, v := range b {
		h = turn(h^uint64(v)*p5, 11) * p1
	}
	return h
}

func round(a, x uint64) uint64 {
	return turn(a+x*p2, 31) * p1
}

func turn(x uint64, n int) uint64 {
	return x<<n | x>>(64-n)
}

// number reads b with the lowest byte first.
func number(b []byte) uint64 {
	var x uint64
	for i, v := range b {
		x |= uint64(v) << (8 * i)
	}
	return x
}
