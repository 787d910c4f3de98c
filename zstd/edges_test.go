package zstd_test

import (
	"bytes"
	"fmt"
	"runtime"
	"slices"
	"strings"
	"testing"

	"baler/api"
	"baler/sequences"
	"baler/zstd"
)

// windowAlone gives the shape of a frame without a told size, of the least window of a power of 2 from 1024 on.
func windowAlone(log int) shape {
	return shape{window: byte((log - 10) * 8)}
}

// sizedShapes gives all heads that can tell a size, with and without single.
func sizedShapes(size int) (all []shape) {
	for _, single := range []bool{true, false} {
		for form := range 4 {
			if form == 0 && (!single || size > 255) || form == 1 && (size < 256 || size > 65791) {
				continue
			}
			all = append(all, shape{form: form, single: single, size: uint64(size), window: 8 * 8})
		}
	}
	return all
}

// P15.1: sizes at the edges of their forms; the content of just that size, of one byte less and of one more, all in one block, or
// with the last bytes in a block of their own.
func TestToldSizes(t *testing.T) {
	for _, size := range []int{0, 1, 2, 255, 256, 257, 65535, 65536, 65791, 65792} {
		text := strings.Repeat("x", size)
		for _, s := range sizedShapes(size) {
			what := fmt.Sprintf("size %d, form %d, single %v", size, s.form, s.single)
			takes(t, what, s.frame(nil, alikeOf('x', size)), []byte(text))
			takes(t, what+", an empty one behind", s.frame(nil, rawOf(text), rawOf("")), []byte(text))
			if size == 0 {
				continue
			}
			takes(t, what+", in two", s.frame(nil, alikeOf('x', size-1), rawOf("x")), []byte(text))
			wants(t, what+", one less", s.frame(nil, alikeOf('x', size-1)), 1<<24, refused(api.ErrMalformed, text[1:]))
			wants(t, what+", one less, then none", s.frame(nil, alikeOf('x', size-1), rawOf("")), 1<<24, refused(api.ErrMalformed, text[1:]))
			// Ahead of the last block a content may be shorter than told.
			wants(t, what+", one less, not the last", s.begun(alikeOf('x', size-1)), 1<<24, refused(api.ErrTruncated, text[1:]))
			wants(t, what+", not the last", s.begun(alikeOf('x', size)), 1<<24, refused(api.ErrTruncated, text))
			wants(t, what+", one more, the last", s.frame(nil, alikeOf('x', size), rawOf("y")), 1<<24, refused(api.ErrMalformed, text))
			wants(t, what+", one more, not the last", s.begun(alikeOf('x', size), rawOf("y")), 1<<24, refused(api.ErrMalformed, text))
			wants(t, what+", a block of one more", s.frame(nil, alikeOf('x', size+1)), 1<<24, refused(api.ErrMalformed, ""))
		}
	}
}

// P15.1: a told size of 0, in each form: a window of 1 where it is single.
func TestSizeNone(t *testing.T) {
	for _, s := range sizedShapes(0) {
		takes(t, "none", s.frame(nil, rawOf("")), nil)
		takes(t, "none with a sum", shape{form: s.form, single: s.single, window: s.window, sum: true}.frame(nil, alikeOf('x', 0)), nil)
		for _, l := range []laid{rawOf("x"), alikeOf('x', 1)} {
			wants(t, "one byte", s.frame(nil, l), 1<<24, refused(api.ErrMalformed, ""))
			wants(t, "one byte, not the last", s.begun(rawOf(""), l), 1<<24, refused(api.ErrMalformed, ""))
			// Within a window of 1 a block of one byte is let in, so that its byte must be there.
			wants(t, "one byte, cut", s.begun(l)[:len(s.begun(l))-1], 1<<24, refused(api.ErrTruncated, ""))
		}
		for _, budget := range []int{0, -1} {
			wants(t, "no budget", s.frame(nil, rawOf("")), budget, refused(api.ErrOverBudget, ""))
		}
		if w, e := zstd.Window(s.head()); s.single && (w != 1 || e != api.OK) {
			t.Errorf("Window: %d, %d", w, int(e))
		}
	}
	single := shape{single: true}
	wants(t, "two bytes of a window of 1", single.begun()[:6], 1, refused(api.ErrTruncated, ""))
	wants(t, "two bytes of a window of 1", slices.Concat(single.head(), low(2*8+1, 3)), 1, refused(api.ErrMalformed, ""))
}

// P15.1: every byte of a window, with a budget of just that many bytes, of one less and one more.
func TestWindowBytes(t *testing.T) {
	const most = 1 << 24
	for w := range 256 {
		s := shape{window: byte(w)}
		power := 1 << (10 + w/8)
		window := power + power*(w%8)/8
		b := s.frame(nil, rawOf("abc"))
		switch got, e := zstd.Window(b); {
		case window <= most && (got != window || e != api.OK):
			t.Errorf("byte %d: %d, %d; want %d", w, got, int(e), window)
		case window > most && (got != 0 || e != api.ErrOverBudget):
			t.Errorf("byte %d: %d, %d; want ErrOverBudget", w, got, int(e))
		}
		for _, budget := range []int{window - 1, window, window + 1, most - 1, most, most + 1} {
			want := whole([]byte("abc"), len(b))
			if window > min(budget, most) {
				want = refused(api.ErrOverBudget, "")
			}
			wants(t, fmt.Sprintf("byte %d, budget %d", w, budget), b, budget, want)
		}
	}
	for w, want := range map[byte]int{0: 1024, 1: 1152, 7: 1920, 8: 2048, 80: 1 << 20, 111: 15 << 20, 112: most} {
		if got, e := zstd.Window(shape{window: w}.head()); got != want || e != api.OK {
			t.Errorf("byte %d: %d, %d", w, got, int(e))
		}
	}
	// A single frame declares what its content has.
	for _, size := range []int{1, 2, 255, 256, 65791, 65792, most - 1, most} {
		for _, s := range sizedShapes(size)[:1] {
			wants(t, "just the budget", s.head(), size, refused(api.ErrTruncated, ""))
			wants(t, "one above it", s.head(), size-1, refused(api.ErrOverBudget, ""))
		}
	}
	wants(t, "one above all", shape{form: 2, single: true, size: most + 1}.head(), most+1, refused(api.ErrOverBudget, ""))
}

// P15.1: a dictionary's number of 0 is none, in however many bytes; any other one is not supported.
func TestDictionary(t *testing.T) {
	for dict, size := range []int{0, 1, 2, 4} {
		for _, single := range []bool{false, true} {
			s := shape{dict: dict, single: single, size: 3}
			takes(t, "dictionary 0", s.frame(nil, rawOf("abc")), []byte("abc"))
			for k := range size {
				for _, x := range []uint64{1, 5, 0x80, 0xff} {
					s.number = x << (8 * k)
					what := fmt.Sprintf("dictionary %x in %d bytes", s.number, size)
					for n := range len(s.head()) {
						wants(t, what+", cut", s.head()[:n], 1<<24, refused(api.ErrTruncated, ""))
					}
					for _, budget := range []int{1 << 24, 3, 2, 0, -1} {
						wants(t, what, s.head(), budget, refused(api.ErrUnsupported, ""))
						wants(t, what, s.frame(nil, rawOf("abc")), budget, refused(api.ErrUnsupported, ""))
					}
				}
			}
		}
	}
}

// P15.1: blocks of size 0: a packed one has not even its sections' heads.
func TestEmptyBlocks(t *testing.T) {
	for _, s := range []shape{windowAlone(10), {single: true, size: 2}} {
		for _, empty := range []laid{rawOf(""), alikeOf('x', 0)} {
			takes(t, "the last", s.frame(nil, rawOf("ab"), empty), []byte("ab"))
			takes(t, "the first", s.frame(nil, empty, rawOf("ab")), []byte("ab"))
			takes(t, "many", s.frame(nil, empty, rawOf("a"), empty, empty, rawOf("b"), empty), []byte("ab"))
		}
		wants(t, "packed", s.begun(rawOf("ab"), packedOf()), 1<<24, refused(api.ErrMalformed, "ab"))
		wants(t, "packed and last", s.frame(nil, rawOf("ab"), packedOf()), 1<<24, refused(api.ErrMalformed, "ab"))
		wants(t, "like bytes without a byte", s.begun(rawOf("ab"), laid{1, 0, nil}), 1<<24, refused(api.ErrTruncated, "ab"))
	}
	takes(t, "packed without content", windowAlone(10).frame(nil, packedOf([]byte{0}, []byte{0})), nil)
	takes(t, "no content at all", windowAlone(10).frame(nil, rawOf("")), nil)
}

// filled is a packed block of raw literals and no steps that has just so many bytes.
func filled(size int) (l laid, content string) {
	content = strings.Repeat("p", size-4)
	return packedOf(rawLits(content), []byte{0}), content
}

// P15.1: blocks of just the most, which is the window or MaxBlock, and of one more.
func TestBlocksMost(t *testing.T) {
	for _, x := range []struct {
		s    shape
		most int
	}{
		{windowAlone(10), 1024}, {shape{window: 1}, 1152}, {windowAlone(13), 8192}, {windowAlone(16), 65536}, {shape{window: 7*8 - 1}, 122880},
		{windowAlone(17), 131072}, {shape{window: 7*8 + 1}, 131072}, {windowAlone(24), 131072},
		{shape{form: 1, single: true, size: 1000}, 1000}, {shape{form: 2, single: true, size: 300_000}, 131072},
	} {
		text := strings.Repeat("r", x.most)
		full, content := filled(x.most)
		for _, y := range []struct {
			l    laid
			want string
		}{{rawOf(text), text}, {alikeOf('r', x.most), text}, {full, content}} {
			what := fmt.Sprintf("kind %d, most %d", y.l.kind, x.most)
			wants(t, what, x.s.begun(y.l), 1<<24, refused(api.ErrTruncated, y.want))
			if !x.s.single {
				b := x.s.frame(nil, y.l)
				wants(t, what+", the last", b, 1<<24, whole([]byte(y.want), len(b)))
			}
			y.l.size++
			wants(t, what+" and one", x.s.begun(rawOf("a"), y.l), 1<<24, refused(api.ErrMalformed, "a"))
			// The size is wrong whether its bytes are there or not.
			wants(t, what+" and one, cut", x.s.begun(rawOf("a"), laid{y.l.kind, y.l.size, nil}), 1<<24, refused(api.ErrMalformed, "a"))
		}
		for kind := range 3 {
			l := laid{kind, 1<<21 - 1, nil}
			wants(t, "the greatest size", x.s.begun(l), 1<<24, refused(api.ErrMalformed, ""))
		}
	}
}

// P15.1: distances of just the window, of just all content so far, and of one more.
func TestFarBack(t *testing.T) {
	ahead := strings.Repeat("0123456789", 120)
	for _, x := range []struct {
		what    string
		s       shape
		content int // ahead of the block
		lits    int // ahead of the copy
		most    int // the greatest distance
	}{
		{"the window", windowAlone(10), 1100, 0, 1024},
		{"the window, behind literals", windowAlone(10), 1100, 30, 1024},
		{"the window as content", windowAlone(10), 1024, 0, 1024},
		{"the window and eighths", shape{window: 1}, 1200, 5, 1152},
		{"all content", windowAlone(11), 1100, 0, 1100},
		{"all content, behind literals", windowAlone(11), 1100, 30, 1130},
		{"one byte", windowAlone(11), 1, 0, 1},
		{"literals alone", windowAlone(11), 0, 20, 20},
		{"one literal alone", windowAlone(11), 0, 1, 1},
		{"no content", windowAlone(11), 0, 0, 0},
		{"a single frame's content", shape{form: 1, single: true, size: 300}, 290, 3, 293},
	} {
		lits := strings.Repeat("l", x.lits)
		var blocks []laid
		for at := 0; at < x.content; at += 256 {
			blocks = append(blocks, rawOf(ahead[at:min(at+256, x.content)]))
		}
		for _, more := range []int{0, 1, 2, 1000, 1 << 20, 1<<28 - 3 - x.most} {
			distance := x.most + more
			if distance < 1 {
				continue
			}
			step := api.Seq{Lits: x.lits, Match: 7, Back: distance + 3}
			b := x.s.begun(slices.Concat(blocks, []laid{packedOf(rawLits(lits), stepsOf(t, step))})...)
			want := refused(api.ErrMalformed, ahead[:x.content])
			if more == 0 {
				text := ahead[:x.content] + lits
				for range 7 {
					text += text[len(text)-distance:][:1]
				}
				want = refused(api.ErrTruncated, text)
			}
			wants(t, fmt.Sprintf("%s: %d", x.what, distance), b, 1<<24, want)
		}
	}
	// Those that are kept at first reach as far as they are, too.
	for content, most := range map[int]int{0: 0, 1: 1, 3: 1, 4: 2, 7: 2, 8: 3} {
		text := ahead[:content]
		for back := 1; back <= 3; back++ {
			lits := text[max(0, content-1):]
			b := windowAlone(10).begun(rawOf(text[:content-len(lits)]), packedOf(rawLits(lits), stepsOf(t, api.Seq{Lits: len(lits), Match: 3, Back: back})))
			got := ask(b, 1<<24)
			if want := modelOf(b, 1<<24); !got.same(want) {
				t.Errorf("back %d of %d bytes: %s", back, content, got.brief())
			}
			if ok := got.e == api.ErrTruncated; ok != (back <= most) && len(lits) > 0 {
				t.Errorf("back %d of %d bytes: %s", back, content, got.brief())
			}
		}
	}
}

// P15.1: packed blocks that come to just the block's most, and to one more, by literals, by a copy, by many of them.
func TestPackedMost(t *testing.T) {
	for _, x := range []struct {
		s    shape
		most int
	}{{windowAlone(10), 1024}, {shape{window: 3}, 1408}, {windowAlone(17), 131072}, {windowAlone(20), 131072}, {shape{form: 1, single: true, size: 2000}, 2000}} {
		for _, ahead := range []string{"", "content ahead"} {
			for more := -1; more <= 2; more++ {
				for way, l := range [][]api.Seq{
					{{Lits: 1, Match: x.most - 1 + more, Back: 4}},                                                                      // a copy alone
					{{Lits: 1, Match: x.most - 6 + more, Back: 4}},                                                                      // literals at the end
					{{Lits: 1, Match: 500, Back: 4}, {Lits: 0, Match: x.most - 501 + more, Back: 4}},                                    // two copies
					{{Lits: 1, Match: x.most - 400 + more, Back: 4}, {Lits: 100, Match: 100, Back: 4}, {Lits: 100, Match: 99, Back: 4}}, // literals between
				} {
					n := x.most + more
					for _, s := range l {
						n -= s.Match
					}
					lits := strings.Repeat("l", n)
					b := x.s.begun(rawOf(ahead), packedOf(rawLits(lits), stepsOf(t, l...)))
					want := refused(api.ErrTruncated, ahead+strings.Repeat("l", x.most+more))
					if more > 0 || x.s.single && len(ahead)+x.most+more > x.most {
						want = refused(api.ErrMalformed, ahead)
					}
					wants(t, fmt.Sprintf("way %d, most %d and %d", way, x.most, more), b, 1<<24, want)
				}
			}
			lits := strings.Repeat("l", x.most)
			b := x.s.begun(packedOf(append(low(uint64(13+x.most*16), 3), 'l'), []byte{0}))
			wants(t, "literals alone", b, 1<<24, refused(api.ErrTruncated, lits))
			b = x.s.begun(rawOf(ahead), packedOf(append(low(uint64(13+(x.most+1)*16), 3), 'l'), []byte{0}))
			wants(t, "literals alone, one more", b, 1<<24, refused(api.ErrMalformed, ahead))
		}
	}
}

// P15.1: however many copies there are that a block has no room for: they are not made.
func TestCopiesTooMany(t *testing.T) {
	l := slices.Repeat([]api.Seq{{Lits: 0, Match: 131074, Back: 4}}, 3000)
	b := windowAlone(17).begun(rawOf("aa"), packedOf(rawLits(""), stepsOf(t, l...)))
	if l, _, e := sequences.Read(stepsOf(t, l...), sequences.Tables{}); e != api.OK || len(l) != 3000 {
		t.Fatalf("%d steps, %d", len(l), int(e))
	}
	var before, behind runtime.MemStats
	runtime.ReadMemStats(&before)
	got := ask(b, 1<<24)
	runtime.ReadMemStats(&behind)
	if !got.same(refused(api.ErrMalformed, "aa")) {
		t.Errorf("great copies: %s", got.brief())
	}
	if made := behind.TotalAlloc - before.TotalAlloc; made > 1<<24 {
		t.Errorf("%d bytes of memory were made", made)
	}
}

// P15.1: a content of just MaxContent bytes, and of one more; the block that is too much is not told.
func TestMaxContent(t *testing.T) {
	const most, each = 1 << 24, 1 << 17
	blocks := slices.Repeat([]laid{alikeOf('m', each)}, most/each)
	all := bytes.Repeat([]byte("m"), most)
	for _, s := range []shape{windowAlone(17), {window: 7 * 8, form: 2, size: most}, {form: 2, single: true, size: most}} {
		for _, b := range [][]byte{s.frame(nil, blocks...), s.frame(nil, slices.Concat(blocks, []laid{rawOf("")})...)} {
			if got := ask(b, most); !got.same(whole(all, len(b))) {
				t.Errorf("just MaxContent: %s", got.brief())
			}
		}
	}
	packed := packedOf(rawLits("m"), stepsOf(t, api.Seq{Lits: 1, Match: 3, Back: 4}))
	wrong := packedOf(rawLits("m"), stepsOf(t, api.Seq{Lits: 2, Match: 3, Back: 4}))
	for _, size := range []uint64{0, most - 1, most, most + 1, 1<<64 - 1} {
		s := shape{window: 7 * 8}
		if size > 0 {
			s.form, s.size = 3, size
		}
		for _, l := range []laid{rawOf("m"), alikeOf('m', 1), alikeOf('m', each), packed} {
			if size == most-1 {
				// Then it was too long ahead of the last block.
				got := ask(s.frame(nil, slices.Concat(blocks, []laid{l})...), most)
				if !got.same(answer{all[:most-each], 0, api.ErrMalformed}) {
					t.Errorf("size %d: %s", size, got.brief())
				}
				continue
			}
			for _, b := range [][]byte{s.frame(nil, slices.Concat(blocks, []laid{l})...), s.begun(slices.Concat(blocks, []laid{l})...)} {
				if got := ask(b, most); !got.same(answer{all, 0, api.ErrLong}) {
					t.Errorf("size %d, one more: %s", size, got.brief())
				}
			}
		}
	}
	s := windowAlone(17)
	if got := ask(s.frame(nil, slices.Concat(blocks, []laid{wrong})...), most); !got.same(answer{all, 0, api.ErrMalformed}) {
		t.Errorf("a wrong block behind MaxContent: %s", got.brief())
	}
	if got := ask(s.begun(slices.Concat(blocks, []laid{rawOf("")})...), most); !got.same(answer{all, 0, api.ErrTruncated}) {
		t.Errorf("MaxContent, cut: %s", got.brief())
	}
	// One below it, and a block that leads far beyond it.
	near := slices.Concat(blocks[1:], []laid{alikeOf('m', each-1)})
	if got := ask(s.frame(nil, slices.Concat(near, []laid{alikeOf('m', each)})...), most); !got.same(answer{all[1:], 0, api.ErrLong}) {
		t.Errorf("from one below MaxContent: %s", got.brief())
	}
	b := s.frame(nil, slices.Concat(near, []laid{rawOf("m")})...)
	if got := ask(b, most); !got.same(whole(all, len(b))) {
		t.Errorf("up to MaxContent: %s", got.brief())
	}
}
