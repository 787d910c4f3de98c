package lzma2

import (
	"fmt"
	"math"
	"math/rand"
	"strings"
	"testing"

	"baler/api"
)

// zero is the bytes of an LZMA chunk that tells one byte 0.
const zero = "\x00\x00\x00\x00\x00\x00"

// The chapter's examples.
func TestDecodeExamples(t *testing.T) {
	takes(t, "the end", []byte{0}, 9, nil)
	takes(t, "abc", []byte("\x01\x00\x02abc\x00"), 9, []byte("abc"))
	wants(t, "no dictionary", []byte("\x02\x00\x02abc\x00"), 9, refused(api.ErrMalformed, ""))
	wants(t, "cut", []byte("\x01\x00\x02ab"), 9, refused(api.ErrTruncated, ""))
	wants(t, "3", []byte{3}, 9, refused(api.ErrMalformed, ""))
	wants(t, "no settings", []byte("\x01\x00\x00a\x80\x00\x00\x00\x00.."), 9, refused(api.ErrMalformed, "a"))
}

// P16.1: bytes as they are, by windows of all sizes.
func TestPlain(t *testing.T) {
	newPen(t).plain(1, "a").reads("one byte")
	newPen(t).plain(1, "abc").plain(2, "d").plain(2, "efghij").reads("1 and 2")
	newPen(t).plain(1, "abc").plain(1, "d").plain(2, "efghij").plain(1, "k").reads("1 again")
	newPen(t).plain(1, "\x00").plain(2, "\x00\x00\x00").plain(2, "\x00\x01\x02").reads("bytes that might be controls")
	p := newPen(t).plain(1, "abc").plain(2, "defgh").plain(2, "i")
	for size := 1; size < 12; size++ {
		takes(t, fmt.Sprintf("size %d", size), p.end(), size, []byte("abcdefghi"))
	}
}

// P16.1: LZMA chunks of each of the four kinds, and bytes as they are, each behind each other. A state that is reset where it should
// not be, or is not where it should, reads the next chunk otherwise.
func TestKinds(t *testing.T) {
	r := rand.New(rand.NewSource(1))
	kinds := []byte{0x80, 0xa0, 0xc0, 0xe0, 2}
	for n := range 5 * 5 * 5 {
		p := newPen(t).packed(0xe0, string(words(r, 301)))
		for _, k := range []int{n % 5, n / 5 % 5, n / 25} {
			if kinds[k] == 2 {
				p.plain(2, string(words(r, 21)))
				continue
			}
			p.packed(kinds[k], string(words(r, 151)))
		}
		p.packed(0x80, "the last one of the chunks").reads(fmt.Sprintf("kinds %d", n))
	}
}

// P16.1: all settings that there are, first of all and in the middle, with the dictionary thrown away and kept.
func TestNewSettings(t *testing.T) {
	r := rand.New(rand.NewSource(2))
	kept, clearing := newPen(t).plain(1, "some"), newPen(t)
	for pb := range 5 {
		for lp := range 5 {
			for lc := range 5 - lp {
				what := fmt.Sprintf("settings %d %d %d", lc, lp, pb)
				text, next := string(words(r, 99)), string(words(r, 77))
				newPen(t).settings(lc, lp, pb).packed(0xe0, text).packed(0x80, next).packed(0xa0, text).reads(what)
				newPen(t).plain(1, text).settings(lc, lp, pb).packed(0xc0, text).packed(0xa0, next).packed(0x80, text).reads(what)
				kept.settings(lc, lp, pb).packed(0xc0, text).packed(0x80, next)
				clearing.settings(lc, lp, pb).packed(0xe0, text).packed(0xa0, next)
			}
		}
	}
	kept.reads("all settings, one behind the other")
	clearing.reads("all settings, the dictionary thrown away each time")
}

// P16.1: where the dictionary is thrown away, places are counted from 0 on; else they go on, through chunks of all kinds.
func TestPlaces(t *testing.T) {
	r := rand.New(rand.NewSource(3))
	for _, set := range [][3]int{{0, 4, 4}, {2, 2, 3}, {4, 0, 4}, {0, 3, 0}} {
		for ahead := 1; ahead < 18; ahead++ {
			text := func() string { return string(words(r, 40+ahead)) }
			p := newPen(t).settings(set[0], set[1], set[2])
			p.plain(1, text()[:ahead]).packed(0xc0, text()).plain(2, text()[:ahead]).packed(0x80, text()).packed(0xa0, text())
			p.plain(1, text()[:ahead]).plain(2, text()[:3]).packed(0xc0, text()).packed(0xe0, text()).packed(0x80, text())
			p.plain(1, "x").packed(0xc0, text()).reads(fmt.Sprintf("settings %v, %d bytes", set, ahead))
		}
	}
}

// P16.1: a copy from each place up to the window's oldest byte, out of chunks of each kind; from further back it is refused.
func TestCopies(t *testing.T) {
	const ahead = "0123456789abcdefghijklmnopqrstuvwxyz"
	for what, begin := range map[string]func() *pen{
		"as they are":       func() *pen { return newPen(t).plain(1, ahead[:20]).plain(2, ahead[20:]).packed(0xc0, "-") },
		"packed":            func() *pen { return newPen(t).packed(0xe0, ahead).packed(0x80, "-") },
		"packed, reset":     func() *pen { return newPen(t).packed(0xe0, ahead[:7]).packed(0xa0, ahead[7:]).packed(0xc0, "-") },
		"both":              func() *pen { return newPen(t).packed(0xe0, ahead[:30]).plain(2, ahead[30:]+"-") },
		"thrown away by E0": func() *pen { return newPen(t).plain(1, "ABCDEFGHIJ").packed(0xe0, ahead).packed(0x80, "-") },
		"thrown away by 1":  func() *pen { return newPen(t).packed(0xe0, "ABCDEFGHIJ").plain(1, ahead).packed(0xc0, "-") },
	} {
		first := begin()
		held := len(first.out) - first.from
		for back := 1; back <= held; back++ {
			p := begin().steps(0x80, "x", step(0, 5, back), step(1, 0, 0))
			for _, size := range []int{1, back - 1, back, back + 1, held, held + 1, 1 << 16} {
				want := told(p.out, len(p.b)+1)
				if size < back {
					want = refused(api.ErrMalformed, string(first.out))
				}
				if size > 0 {
					wants(t, fmt.Sprintf("%s, %d back", what, back), p.end(), size, want)
				}
			}
		}
	}
}

// P16.1: nothing that stands ahead of where the dictionary was thrown away can be copied, however great the window is.
func TestNothingAheadOfTheDictionary(t *testing.T) {
	for back := 1; back < 14; back++ {
		// The chunk that copies is laid as if all ahead of it were there; then a control is changed to one that throws that away.
		p := newPen(t).settings(3, 0, 0).packed(0xe0, "0123456789")
		at := len(p.b)
		p.plain(2, "abc")
		p.steps(0xc0, "x", step(0, 5, back), step(1, 0, 0))
		b := p.end()
		wants(t, "kept", b, 1<<20, told(p.out, len(b)))
		b[at] = 1
		want := told(p.out, len(b))
		if back > 3 {
			want = refused(api.ErrMalformed, "0123456789abc")
		}
		wants(t, fmt.Sprintf("thrown away by 1, %d back", back), b, 1<<20, want)
		b[at], b[at+6] = 2, 0xe0
		wants(t, fmt.Sprintf("thrown away by E0, %d back", back), b, 1<<20, refused(api.ErrMalformed, "0123456789abc"))
	}
}

// P16.1: the end, first of all or later; what stands behind it is nobody's business.
func TestEnd(t *testing.T) {
	for _, behind := range []string{"", "\x00", "\x01", "\x03", "\x80", "\xff\xff\xff\xff\xff\xff", "\x01\x00\x02abc\x00"} {
		wants(t, "the end first", []byte("\x00"+behind), 1, told(nil, 1))
		wants(t, "the end", []byte("\x01\x00\x02abc\x00"+behind), 1, told([]byte("abc"), 7))
		wants(t, "the end", []byte("\xe0\x00\x00\x00\x05\x5d"+zero+"\x00"+behind), 1, told([]byte{0}, 13))
	}
}

// P16.1: sizes that a window may have, and such as it may not, whatever is to be read.
func TestSizes(t *testing.T) {
	abc := []byte("\x01\x00\x02abc\x00")
	for _, size := range []int{1, 2, 1<<24 - 1, 1 << 24} {
		wants(t, "a size", abc, size, told([]byte("abc"), 7))
		wants(t, "a size", nil, size, refused(api.ErrTruncated, ""))
	}
	for _, size := range []int{0, -1, 1<<24 + 1, 1 << 25, 1 << 32, 1<<32 + 9, math.MinInt, math.MaxInt} {
		for _, b := range [][]byte{abc, nil, {}, {0}, {3}, {2, 0, 0, 'a'}, {1, 0}, {0xe0, 0, 0, 0, 0, 225, 1}} {
			wants(t, "no size", b, size, refused(api.ErrArg, ""))
		}
	}
}

// P16.1: a window of just MaxWindow, whose oldest byte is copied.
func TestGreatestWindow(t *testing.T) {
	t.Parallel()
	p := newPen(t).steps(0xe0, "\xab", step(1, 0, 0))
	for range 7 {
		p.packed(0x80, string(make([]byte, 1<<21)))
	}
	p.packed(0x80, string(make([]byte, 1<<21-1-9)))
	p.steps(0x80, "", step(0, 9, 1<<24-9))
	if len(p.out) != 1<<24 || p.out[1<<24-9] != 0xab {
		t.Fatal(len(p.out))
	}
	wants(t, "the greatest window", p.end(), 1<<24, told(p.out, len(p.b)+1))
	wants(t, "a window of just as much", p.end(), 1<<24-9, told(p.out, len(p.b)+1))
	wants(t, "one less", p.end(), 1<<24-10, refused(api.ErrMalformed, string(p.out[:1<<24-9])))
}

// P16.1: how many bytes chunks tell: from one on, up to 2^16 of bytes as they are, and 2^21 of an LZMA chunk.
func TestHowMuchAChunkTells(t *testing.T) {
	r := rand.New(rand.NewSource(4))
	for _, n := range []int{1, 2, 255, 256, 257, 65535, 65536} {
		newPen(t).plain(1, string(noise(r, n))).plain(2, string(noise(r, n))).reads(fmt.Sprintf("%d as they are", n))
	}
	for _, n := range []int{1, 2, 256, 257, 65535, 65536, 65537, 1 << 17, 1<<17 + 1, 1 << 20, 1<<21 - 1, 1 << 21} {
		for _, control := range []byte{0x80, 0xa0, 0xc0, 0xe0} {
			p := newPen(t).packed(0xe0, "abcd")
			p.packed(control, strings.Repeat("a", n))
			wants(t, fmt.Sprintf("%d of control %x", n, control), p.end(), 9, told(p.out, len(p.b)+1))
		}
	}
}

// P16.1: an LZMA chunk that has just 2^16 bytes, and such as have fewer than there can be.
func TestHowMuchAChunkHas(t *testing.T) {
	r := rand.New(rand.NewSource(5))
	for n, found := 64400, false; !found; {
		p := newPen(t)
		p.ready(0xe0)
		text := noise(r, n)
		chunk, e := p.s.Chunk(text, 0, 0, []api.Seq{step(n, 0, 0)})
		if e != api.OK {
			t.Fatal(int(e))
		}
		if found = len(chunk) == 1<<16; found {
			b := append(append(packedHeadOf(0xe0, 0x5d, n, 1<<16), chunk...), 0)
			wants(t, "2^16 bytes", b, 9, told(text, len(b)))
			wants(t, "the last one is missing", b[:len(b)-2], 9, refused(api.ErrTruncated, ""))
		}
		n += 1<<16 - len(chunk)
	}
	for n := 1; n < 6; n++ {
		b := append(packedHeadOf(0xe0, 0x5d, 1, n), make([]byte, n)...)
		wants(t, fmt.Sprintf("%d bytes 0", n), append(b, 0), 9, refused(api.ErrMalformed, ""))
	}
}

// mostPlain and mostPacked tell just MaxContent bytes.
func mostPlain(t *testing.T) *pen {
	p := newPen(t).plain(1, strings.Repeat("a", 1<<16))
	for range 255 {
		p.plain(2, strings.Repeat("b", 1<<16))
	}
	return p
}

func mostPacked(t *testing.T) *pen {
	p := newPen(t).packed(0xe0, strings.Repeat("a", 1<<21))
	for range 7 {
		p.packed(0x80, strings.Repeat("b", 1<<21))
	}
	return p
}

// P16.1: all chunks together tell just MaxContent bytes, and one more.
func TestMostContent(t *testing.T) {
	t.Parallel()
	for _, p := range []*pen{mostPlain(t), mostPacked(t)} {
		all := string(p.out)
		wants(t, "just MaxContent", p.end(), 9, told(p.out, len(p.b)+1))
		wants(t, "one byte more", []byte(string(p.b)+"\x02\x00\x00x\x00"), 9, refused(api.ErrLong, all))
	}
	p := mostPlain(t)
	all := string(p.out)
	for what, behind := range map[string]string{
		"and nothing behind":         "\x02\x00\x00x",
		"the dictionary thrown away": "\x01\x00\x00x\x00",
		"an LZMA chunk":              "\xe0\x00\x00\x00\x05\x5d" + zero,
		"what is none behind it":     "\x02\x00\x00x\x03",
	} {
		wants(t, "one byte more, "+what, []byte(string(p.b)+behind), 9, refused(api.ErrLong, all))
	}
	// Whatever else is wrong with the chunk is told first.
	wants(t, "a wrong chunk", []byte(string(p.b)+"\xe0\x00\x00\x00\x06\x5d"+zero+"\x00\x00"), 9, refused(api.ErrMalformed, all))
	wants(t, "wrong settings", []byte(string(p.b)+"\xe0\x00\x00\x00\x05\xe1"+zero), 9, refused(api.ErrMalformed, all))
	wants(t, "a chunk that is cut", []byte(string(p.b)+"\x02\x00\x00"), 9, refused(api.ErrTruncated, all))
}

// P16.1: of a chunk behind which it is too much nothing is told, also if a part of it would not be too much.
func TestNothingOfALongChunk(t *testing.T) {
	t.Parallel()
	p := newPen(t).packed(0xe0, strings.Repeat("a", 1<<20))
	for range 7 {
		p.packed(0x80, strings.Repeat("b", 1<<21))
	}
	p.packed(0x80, strings.Repeat("c", 1<<20-1))
	ahead := string(p.out)
	wants(t, "MaxContent less 1", p.end(), 9, told(p.out, len(p.b)+1))
	wants(t, "many more", p.packed(0x80, strings.Repeat("d", 1<<16)).end(), 9, refused(api.ErrLong, ahead))
}

// Streams of another encoder: kinds E0 80 2 A0 2 A0 by three settings, and kinds 1 C0.
func TestOtherStreams(t *testing.T) {
	var text, noise []byte
	for k := range 12 {
		text = append(text, strings.Repeat("the graph of stages; ", 1+k%3)...)
		text = append(text, byte('a'+k*5%26))
	}
	for x := uint32(7); len(noise) < 40; {
		x = x*1664525 + 1013904223
		noise = append(noise, byte(x>>24))
	}
	const (
		ofNoise = "00273de99ced0cdb5c0d11fbf988738c9ac7c76b79da5c7b17bfd55b2dfb1f74741b1d9fc5159bed4497"
		onReset = "a000d7001600b043406ab239415018ed764a2170"
		ofLast  = "02000078a0003b000700b2a484c000000000"
	)
	all := string(text[:300]) + string(noise) + string(text[300:]) + "x" + string(text[:60])
	for _, digits := range []string{
		"e0009500275d003a1a08ce766dc96895cb446db27af31c0e7b74a0c8a288e9b9a71d965933bb934f6383c8643a8080009500110038f37a68095c8a52848b39bc" +
			"894cf0aa0002" + ofNoise + onReset + "ef495d23d2dbd600" + ofLast,
		"e000950029d8003a1a08a20339c8c27034080de66101cce86135ea29dc7e55736ad5b423574e4cfad893c8349b8287808000950011003694881124d5a27cde0a" +
			"3205ea0ef3cdfa02" + ofNoise + onReset + "b53aa69f63e7b000" + ofLast,
		"e00095002840003a1a09072430a851006b34eddf2a7b4a9d65b425ebcd74bd3ce28ab65fdea1111bb24e43e32fdd008000950011003695bd4aa5a03e4a44a3fb" +
			"5f7e791c670502" + ofNoise + onReset + "b53aa69f3c1e4000" + ofLast,
	} {
		takes(t, "another encoder's", bytesOf(t, digits), 1<<16, []byte(all))
	}
	takes(t, "another encoder's", bytesOf(t, "01"+ofNoise+"c00203004003003a1ada05204107e8df79d79d5d490df0745f668bae5bae3d9f4deb88"+
		"610379ea7337c738511cf1adafd496cc4ffcd2a183921a20401d217c9a3d0f8b7edc900000"), 1<<16, append(noise, text...))
}
