package sums

import (
	"bytes"
	"encoding/binary"
	"hash/crc32"
	"hash/crc64"
	mathbits "math/bits"
	"math/rand"
	"slices"
	"testing"
)

var edges = []int{0, 1, 2, 3, 4, 5, 7, 8, 9, 11, 12, 13, 15, 16, 17, 20, 24, 27, 28, 29, 31, 32, 33, 36, 39, 40, 41, 44, 60, 63, 64, 65, 68, 95, 96, 97, 100, 127, 128, 129, 1000}

// modelXXH follows the chapter's four points on the whole of b at once, and turns by the library.
func modelXXH(b []byte) uint64 {
	prime := []uint64{0, 0x9E3779B185EBCA87, 0xC2B2AE3D27D4EB4F, 0x165667B19E3779F9, 0x85EBCA77C2B2AE63, 0x27D4EB2F165667C5}
	turned := mathbits.RotateLeft64
	mix := func(a, x uint64) uint64 { return turned(a+x*prime[2], 31) * prime[1] }
	h, at := prime[5], 0
	if len(b) >= 32 {
		a := []uint64{prime[1] + prime[2], prime[2], 0, 0 - prime[1]}
		for ; at+32 <= len(b); at += 32 {
			for i := range a {
				a[i] = mix(a[i], binary.LittleEndian.Uint64(b[at+8*i:]))
			}
		}
		h = turned(a[0], 1) + turned(a[1], 7) + turned(a[2], 12) + turned(a[3], 18)
		for i := range a {
			h = (h^mix(0, a[i]))*prime[1] + prime[4]
		}
	}
	h += uint64(len(b))
	for ; at+8 <= len(b); at += 8 {
		h = turned(h^mix(0, binary.LittleEndian.Uint64(b[at:])), 27)*prime[1] + prime[4]
	}
	if at+4 <= len(b) {
		h = turned(h^uint64(binary.LittleEndian.Uint32(b[at:]))*prime[1], 23)*prime[2] + prime[3]
		at += 4
	}
	for ; at < len(b); at++ {
		h = turned(h^uint64(b[at])*prime[5], 11) * prime[1]
	}
	h ^= h >> 33
	h *= prime[2]
	h ^= h >> 29
	h *= prime[3]
	return h ^ h>>32
}

// model gives what a sum of that kind must be, by other means than the package's own.
func model(kind int, b []byte) uint64 {
	switch kind {
	case 1:
		return uint64(crc32.ChecksumIEEE(b))
	case 2:
		return crc64.Checksum(b, crc64.MakeTable(crc64.ECMA))
	case 3:
		return modelXXH(b)
	}
	return 0
}

func atOnce(kind int, b []byte) uint64 {
	switch kind {
	case 1:
		return uint64(CRC32(b))
	case 2:
		return CRC64(b)
	}
	return XXH64(b)
}

func noise(seed int64, n int) []byte {
	b := make([]byte, n)
	rand.New(rand.NewSource(seed)).Read(b)
	return b
}

func want(t *testing.T, what string, got, want uint64) {
	t.Helper()
	if got != want {
		t.Fatalf("%s: %X; want %X", what, got, want)
	}
}

// P2.1: numbers that stand in the chapter, and others that are known of these sums.
func TestExamples(t *testing.T) {
	nine := []byte("123456789")
	want(t, "CRC32 of none", uint64(CRC32(nil)), 0)
	want(t, "CRC64 of none", CRC64(nil), 0)
	want(t, "XXH64 of none", XXH64(nil), 0xEF46DB3751D8E999)
	want(t, "XXH64 of an empty list", XXH64([]byte{}), 0xEF46DB3751D8E999)
	want(t, "CRC32 of nine", uint64(CRC32(nine)), 0xCBF43926)
	want(t, "CRC64 of nine", CRC64(nine), 0x995DC9BBDF1939FA)
	want(t, "XXH64 of a", XXH64([]byte("a")), 0xD24EC4F1A98C6E5B)
	want(t, "XXH64 of abc", XXH64([]byte("abc")), 0x44BC2CF5AD770999)
	want(t, "XXH64 of nine", XXH64(nine), 0x8CB841DB40E6AE83)
	want(t, "XXH64 of 39", XXH64([]byte("Nobody inspects the spammish repetition")), 0xFBCEA83C8A378BF1)
}

// P2.1: each length that the chapter's points tell apart, on noise, on zeros and on bytes all set.
func TestAtOnce(t *testing.T) {
	for kind := 1; kind <= 3; kind++ {
		for _, n := range edges {
			for i, b := range [][]byte{noise(int64(n), n), make([]byte, n), bytes.Repeat([]byte{0xff}, n)} {
				if got := atOnce(kind, b); got != model(kind, b) {
					t.Fatalf("kind %d, %d bytes, text %d: %X; want %X", kind, n, i, got, model(kind, b))
				}
			}
		}
	}
}

// P2.1: the chapter's own words of a CRC, bit by bit.
func TestCRCByTheWord(t *testing.T) {
	b := noise(5, 300)
	small, great := ^uint32(0), ^uint64(0)
	for _, v := range b {
		small ^= uint32(v)
		great ^= uint64(v)
		for range 8 {
			if small%2 == 1 {
				small = small/2 ^ 0xEDB88320
			} else {
				small /= 2
			}
			if great%2 == 1 {
				great = great/2 ^ 0xC96C5795D7870F42
			} else {
				great /= 2
			}
		}
	}
	want(t, "CRC-32", uint64(CRC32(b)), uint64(^small))
	want(t, "CRC-64", CRC64(b), ^great)
}

// P2.2: a sum of no bytes, and of one row.
func TestNew(t *testing.T) {
	for kind := 1; kind <= 3; kind++ {
		for _, n := range edges {
			s := New(kind)
			want(t, "of none", s.Value(), model(kind, nil))
			b := noise(int64(100+n), n)
			s.Add(b)
			want(t, "of one row", s.Value(), model(kind, b))
		}
	}
}

// P2.2: kinds that are none, a nil sum, a nil list.
func TestWrong(t *testing.T) {
	for _, kind := range []int{0, 4, 9, -1, 5, 257, 1 << 40, -1 << 63} {
		s := New(kind)
		if s == nil {
			t.Fatalf("New(%d) is nil", kind)
		}
		want(t, "no kind, no bytes", s.Value(), 0)
		s.Add([]byte("abc"))
		want(t, "no kind", s.Value(), 0)
		s.Add(nil)
		want(t, "no kind, once more", s.Value(), 0)
	}
	var none *Sum
	none.Add([]byte("abc"))
	none.Add(nil)
	want(t, "a nil sum", none.Value(), 0)
	unmade := &Sum{}
	unmade.Add([]byte("abc"))
	want(t, "a sum that New did not make", unmade.Value(), 0)
	for kind := 1; kind <= 3; kind++ {
		s := New(kind)
		s.Add(nil)
		want(t, "a nil list", s.Value(), model(kind, nil))
		s.Add([]byte("a"))
		s.Add(nil)
		s.Add([]byte{})
		want(t, "nil lists behind a", s.Value(), model(kind, []byte("a")))
	}
}

// P2.3: all pairs of cuts of a short text, with Value asked twice at each.
func TestTwoCuts(t *testing.T) {
	b := noise(7, 100)
	for kind := 1; kind <= 3; kind++ {
		for i := 0; i <= len(b); i++ {
			for j := i; j <= len(b); j++ {
				s := New(kind)
				at := 0
				for _, end := range []int{i, j, len(b)} {
					s.Add(b[at:end])
					at = end
					for range 2 {
						if got := s.Value(); got != model(kind, b[:at]) {
							t.Fatalf("kind %d, cut at %d and %d: %X up to %d", kind, i, j, got, at)
						}
					}
				}
			}
		}
	}
}

// P2.3: pieces that end just at 32 bytes, one past it, of one byte, and empty ones between.
func TestPieces(t *testing.T) {
	rows := [][]int{{32, 32, 32}, {33, 31, 33}, {31, 1, 32}, {32, 1}, {33}, {64, 0, 0, 1}, {0, 32, 0, 1, 0}, {8, 8, 8, 8, 4}, {63, 1, 65}, {5, 59, 64, 200}, slices.Repeat([]int{1}, 130)}
	for kind := 1; kind <= 3; kind++ {
		for _, row := range rows {
			s := New(kind)
			var all []byte
			for i, n := range row {
				b := noise(int64(i), n)
				s.Add(b)
				all = append(all, b...)
				if got := s.Value(); got != model(kind, all) {
					t.Fatalf("kind %d, pieces %v: %X at piece %d; want %X", kind, row, got, i, model(kind, all))
				}
			}
		}
	}
}

// P2.3: cuts of any kind, Value asked only at the end, or also between.
func TestAnyCuts(t *testing.T) {
	r := rand.New(rand.NewSource(9))
	for range 500 {
		b := noise(r.Int63(), r.Intn(700))
		kind, ask := 1+r.Intn(3), r.Intn(2) == 0
		s := New(kind)
		for at := 0; at < len(b); {
			n := min(r.Intn(70), len(b)-at)
			s.Add(b[at : at+n])
			at += n
			if ask {
				want(t, "between", s.Value(), model(kind, b[:at]))
			}
		}
		want(t, "at the end", s.Value(), model(kind, b))
	}
}

// P2.4: exclusive or of three rows.
func TestRowsTogether(t *testing.T) {
	for _, n := range edges {
		a, b, c := noise(1, n), noise(2, n), noise(3, n)
		all := make([]byte, n)
		for i := range all {
			all[i] = a[i] ^ b[i] ^ c[i]
		}
		want(t, "CRC-32", uint64(CRC32(a)^CRC32(b)^CRC32(c)), uint64(CRC32(all)))
		want(t, "CRC-64", CRC64(a)^CRC64(b)^CRC64(c), CRC64(all))
	}
}

// P2.4: one byte changed, at each place, into each other value.
func TestOneByteChanged(t *testing.T) {
	for _, n := range []int{1, 2, 4, 5, 33} {
		b := noise(11, n)
		small, great := CRC32(b), CRC64(b)
		for i := range b {
			for d := 1; d < 256; d++ {
				b[i] ^= byte(d)
				if CRC32(b) == small || CRC64(b) == great {
					t.Fatalf("%d bytes, byte %d changed by %d: not seen", n, i, d)
				}
				b[i] ^= byte(d)
			}
		}
	}
}

// R3: what is handed in is not changed, nor the room behind it, and not kept.
func TestMemory(t *testing.T) {
	for kind := 1; kind <= 3; kind++ {
		room := noise(13, 200)
		before := bytes.Clone(room)
		s := New(kind)
		s.Add(room[:45])
		atOnce(kind, room[:45])
		if !bytes.Equal(room, before) {
			t.Fatalf("kind %d changed what was handed in", kind)
		}
		clear(room)
		want(t, "written over", s.Value(), model(kind, before[:45]))
		s.Add(before[45:])
		want(t, "gone on", s.Value(), model(kind, before))
	}
}

// R2: two sums at a time know nothing of each other.
func TestSideBySide(t *testing.T) {
	for kind := 1; kind <= 3; kind++ {
		a, b := noise(17, 90), noise(18, 90)
		x, y := New(kind), New(kind)
		for at := 0; at < 90; at += 9 {
			x.Add(a[at : at+9])
			y.Add(b[at : at+9])
		}
		want(t, "the one", x.Value(), model(kind, a))
		want(t, "the other", y.Value(), model(kind, b))
	}
}
