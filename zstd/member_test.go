package zstd_test

import (
	"bytes"
	"fmt"
	"math/rand"
	"slices"
	"strings"
	"testing"

	"baler/api"
	"baler/finder"
	"baler/sequences"
	"baler/zstd"
)

// The chapter's examples.
func TestExamples(t *testing.T) {
	takes(t, "abc", []byte("\x28\xb5\x2f\xfd\x20\x03\x19\x00\x00abc"), []byte("abc"))
	takes(t, "a skippable frame", []byte("\x50\x2a\x4d\x18\x01\x00\x00\x00\xff"), nil)
	takes(t, "aaa", []byte("\x28\xb5\x2f\xfd\x20\x03\x1b\x00\x00a"), []byte("aaa"))
	wants(t, "size 4", []byte("\x28\xb5\x2f\xfd\x20\x04\x19\x00\x00abc"), 4, refused(api.ErrMalformed, "abc"))
	window := []byte("\x28\xb5\x2f\xfd\x00\x50")
	wants(t, "a budget below 2^20", window, 1<<20-1, refused(api.ErrOverBudget, ""))
	wants(t, "a budget of 2^20", window, 1<<20, refused(api.ErrTruncated, ""))
}

// someShapes are heads with and without a sum, a told size, a window's byte, for a content of so many bytes.
func someShapes(n int) (all []shape) {
	for _, sum := range []bool{false, true} {
		for _, fourth := range []bool{false, true} {
			for dict := range 4 {
				s := shape{sum: sum, fourth: fourth, dict: dict, window: 7 * 8, size: uint64(n)}
				all = append(all, s)
				for _, single := range []bool{false, true} {
					s.single = single
					for form := range 4 {
						s.form = form
						if form == 0 && (!single || n > 255) || form == 1 && (n < 256 || n > 65791) {
							continue
						}
						all = append(all, s)
					}
				}
			}
		}
	}
	return all
}

// P15.1: frames of raw blocks, of like bytes, of packed ones, and of all three behind one another, by heads of all forms.
func TestBlocks(t *testing.T) {
	lays := map[string]func(p *pen){
		"a raw block":   func(p *pen) { p.raw("a raw block") },
		"raw blocks":    func(p *pen) { p.raw("one"); p.raw(strings.Repeat("two", 100)); p.raw("three") },
		"like bytes":    func(p *pen) { p.alike('a', 300) },
		"like and like": func(p *pen) { p.alike('a', 1); p.alike('b', 2); p.alike('a', 3) },
		"a packed block": func(p *pen) {
			p.packed([]byte("abcdefgh"), api.Seq{Lits: 3, Match: 5, Back: 5}, api.Seq{Lits: 1, Match: 3, Back: 8})
		},
		"packed blocks": func(p *pen) {
			p.packed([]byte("abcdefgh"), api.Seq{Lits: 3, Match: 500, Back: 6})
			p.packed([]byte("only literals"))
			p.packed(nil, api.Seq{Match: 4, Back: 100})
		},
		"all three": func(p *pen) {
			for range 3 {
				p.raw("raw ")
				p.alike('x', 9)
				p.packed([]byte("literals, and "), api.Seq{Lits: 10, Match: 7, Back: 12}, api.Seq{Lits: 0, Match: 90, Back: 1})
			}
			p.packed([]byte("the end"), api.Seq{Lits: 2, Match: 3, Back: 30})
			p.alike('!', 2)
			p.raw(".")
		},
	}
	for what, lay := range lays {
		p := newPen(t)
		lay(p)
		for _, s := range someShapes(len(p.content)) {
			b := p.frame(s)
			wants(t, what, b, 1<<17, whole(p.content, len(b)))
		}
		takes(t, what, p.frame(shape{window: 7 * 8}), p.content)
		takes(t, what, p.frame(shape{window: 7 * 8, sum: true, form: 2, size: uint64(len(p.content))}), p.content)
	}
}

// abcd gives n letters, of which some are rare.
func abcd(seed int64, n int) []byte {
	r, b := rand.New(rand.NewSource(seed)), make([]byte, n)
	for k := range b {
		b[k] = "aaaaabbbccd"[r.Intn(11)]
	}
	return b
}

// P15.2: weights are those of the last block that told some, however many blocks of other kinds, or with literals that are not
// packed, stand between.
func TestWeightsAhead(t *testing.T) {
	between := map[string]func(p *pen){
		"nothing":  func(p *pen) {},
		"raw":      func(p *pen) { p.raw("raw") },
		"alike":    func(p *pen) { p.alike('z', 100) },
		"raw lits": func(p *pen) { p.packed([]byte("no weights"), api.Seq{Lits: 3, Match: 9, Back: 8}) },
		"no lits":  func(p *pen) { p.packed(nil, api.Seq{Match: 9, Back: 8}) },
		"all": func(p *pen) {
			p.alike('z', 100)
			p.packed([]byte("x"))
			p.raw("raw")
			p.packed(bytes.Repeat([]byte("y"), 1000))
			p.raw("")
			p.alike('z', 0)
		},
	}
	for what, lay := range between {
		p := newPen(t)
		kinds := []int{p.packed(abcd(1, 900))}
		lay(p)
		kinds = append(kinds, p.packed(abcd(2, 900)))
		lay(p)
		kinds = append(kinds, p.packed(abcd(3, 1000), api.Seq{Lits: 500, Match: 30, Back: 503}))
		if !slices.Equal(kinds, []int{2, 3, 3}) {
			t.Fatalf("%s: literals of kinds %v", what, kinds)
		}
		// Weights that are told later take their place.
		other := bytes.Map(func(r rune) rune { return 'e' + 'd' - r }, abcd(4, 900))
		kinds = []int{p.packed(other)}
		lay(p)
		kinds = append(kinds, p.packed(other))
		if !slices.Equal(kinds, []int{2, 3}) {
			t.Fatalf("%s: literals of kinds %v", what, kinds)
		}
		takes(t, what, p.frame(shape{window: 7 * 8, sum: true}), p.content)
	}
}

// tellers gives steps that package sequences tells by tables that are not told, of one code alone, and described.
func tellers() map[int][]api.Seq {
	var many []api.Seq
	for k := range 200 {
		many = append(many, api.Seq{Lits: k % 3, Match: 4 + k*k%4, Back: 5 + k%7/5*30})
	}
	return map[int][]api.Seq{
		0: {{Lits: 1, Match: 4, Back: 5}, {Lits: 2, Match: 40, Back: 9}, {Lits: 5, Match: 90, Back: 17}},
		1: slices.Repeat([]api.Seq{{Lits: 2, Match: 9, Back: 5}}, 20),
		2: many,
	}
}

func litsFor(l []api.Seq) []byte {
	n := 7
	for _, s := range l {
		n += s.Lits
	}
	return abcd(int64(n), n)
}

// P15.2: each of the three tables is that of the last block which told some.
func TestTablesAhead(t *testing.T) {
	all := tellers()
	for kind, l := range all {
		section := stepsOf(t, l...)
		_, kinds, _, _ := tableParts(t, section)
		for k := range 3 {
			if got := kindOf(kinds, k); got != kind {
				t.Fatalf("table %d is of kind %d, not %d", k, got, kind)
			}
		}
		for mask := 1; mask < 8; mask++ {
			for other := range all {
				what := fmt.Sprintf("kind %d behind %d, mask %d", kind, other, mask)
				p := newPen(t)
				p.alike('.', 60)
				// Tables that are told later take their place.
				p.packed(litsFor(all[other]), all[other]...)
				p.packedBy(litsFor(l), section, l...)
				p.packedBy(litsFor(l), leaning(t, section, mask), l...)
				p.raw("raw")
				p.alike('z', 9)
				p.packed([]byte("no steps"))
				p.packedBy(litsFor(l), leaning(t, section, mask), l...)
				// A table that was taken from ahead is ahead of the next block too.
				p.packedBy(litsFor(l), leaning(t, section, 7), l...)
				b := p.frame(shape{window: 7 * 8, sum: true})
				wants(t, what, b, 1<<17, whole(p.content, len(b)))
			}
		}
	}
}

// P15.2: what is ahead is of this frame: weights and tables of a frame ahead are none.
func TestEachFrameByItself(t *testing.T) {
	l := tellers()[2]
	section := stepsOf(t, l...)
	text := abcd(1, 900)
	packed, w := litsOf(t, text, nil)
	again, _ := litsOf(t, text, w)
	ahead := shape{window: 7 * 8}.frame(nil, rawOf(strings.Repeat(".", 40)), packedOf(packed, section))
	_, used, e := zstd.Member(ahead, 1<<17)
	if e != api.OK || used != len(ahead) {
		t.Fatalf("%d, %d", used, int(e))
	}
	for mask := 1; mask < 8; mask++ {
		b := shape{window: 7 * 8}.frame(nil, rawOf(strings.Repeat(".", 40)), packedOf(packed, leaning(t, section, mask)))
		wants(t, fmt.Sprintf("tables %d", mask), b, 1<<17, refused(api.ErrMalformed, strings.Repeat(".", 40)))
		wants(t, fmt.Sprintf("tables %d, behind a frame", mask), slices.Concat(ahead, b)[used:], 1<<17,
			refused(api.ErrMalformed, strings.Repeat(".", 40)))
	}
	b := shape{window: 7 * 8}.frame(nil, rawOf("raw"), packedOf(again, stepsOf(t)))
	wants(t, "weights", b, 1<<17, refused(api.ErrMalformed, "raw"))
}

// P15.1: distances begin as 1 4 8 with the frame, and are carried from block to block, whatever stands between.
func TestDistances(t *testing.T) {
	const text = "abcdefgh"
	for back, want := range map[int]string{1: "hhh", 2: "efg", 3: "abc"} {
		b := shape{window: 0}.frame(nil, rawOf(text[:7]), packedOf(rawLits("h"), stepsOf(t, api.Seq{Lits: 1, Match: 3, Back: back})))
		takes(t, fmt.Sprintf("at first, back %d", back), b, []byte(text+want))
	}
	for back, want := range map[int]string{1: "efg", 2: "abc"} {
		b := shape{window: 0}.frame(nil, rawOf(text), packedOf(rawLits("!"), stepsOf(t, api.Seq{Lits: 0, Match: 3, Back: back})))
		takes(t, fmt.Sprintf("at first, no literal, back %d", back), b, []byte(text+want+"!"))
	}
	// 1 4 8; then 5 1 4, 4 5 1, 5 4 1 (without a literal, as are the next one and the last), 4 5 4, 4 5 4, 5 4 4.
	p := newPen(t)
	p.raw("0123456789")
	p.packed([]byte("A"), api.Seq{Lits: 1, Match: 3, Back: 8})
	p.raw("raw")
	p.alike('z', 3)
	p.packed([]byte("B"), api.Seq{Lits: 1, Match: 3, Back: 3})
	p.packed([]byte("only literals"))
	p.packed(nil, api.Seq{Lits: 0, Match: 3, Back: 1})
	p.packed([]byte("C"), api.Seq{Lits: 0, Match: 3, Back: 3})
	p.packed([]byte("D"), api.Seq{Lits: 1, Match: 3, Back: 1}, api.Seq{Lits: 0, Match: 4, Back: 1})
	const want = "0123456789" + "A678" + "rawzzz" + "Bzzz" + "only literals" + "era" + "ser" + "C" + "DerC" + "CDer"
	if string(p.content) != want {
		t.Fatalf("%q, not %q", p.content, want)
	}
	takes(t, "from block to block", p.frame(shape{window: 0, sum: true}), []byte(want))
	// The next frame begins with 1 4 8 again.
	b := p.frame(shape{window: 0, sum: true})
	all := slices.Concat(b, shape{window: 0}.frame(nil, rawOf("abcdefg"), packedOf(rawLits("h"), stepsOf(t, api.Seq{Lits: 1, Match: 3, Back: 2}))))
	takes(t, "the next frame", all[len(b):], []byte("abcdefghefg"))
}

// P15.1: copies that reach into themselves, into blocks ahead, to the first byte of the content; literals behind the last step.
func TestCopies(t *testing.T) {
	for distance := 1; distance <= 9; distance++ {
		for _, match := range []int{3, 4, distance + 2, 2*distance + 1, 100, 1000} {
			p := newPen(t)
			p.packed([]byte("123456789"), api.Seq{Lits: 9, Match: max(match, 3), Back: distance + 3})
			want := "123456789"
			for range max(match, 3) {
				want += want[len(want)-distance:][:1]
			}
			if string(p.content) != want {
				t.Fatalf("%q, not %q", p.content, want)
			}
			takes(t, fmt.Sprintf("%d from %d", match, distance), p.frame(shape{window: 8}), p.content)
		}
	}
	p := newPen(t)
	p.raw("The first")
	p.alike('-', 20)
	p.packed([]byte("literals behind"), api.Seq{Lits: 0, Match: 9, Back: 29 + 3}, api.Seq{Lits: 8, Match: 5, Back: 27 + 3})
	const want = "The first" + "--------------------" + "The first" + "literals" + "-----" + " behind"
	if string(p.content) != want {
		t.Fatalf("%q, not %q", p.content, want)
	}
	takes(t, "to the first byte", p.frame(shape{single: true, size: uint64(len(want))}), []byte(want))
}

// P15.1: skippable frames of each number, with any bytes, tell no content, with a budget of 0 too.
func TestSkippable(t *testing.T) {
	for which := range 16 {
		for _, text := range []string{"", "x", "\x28\xb5\x2f\xfd\x20\x03\x19\x00\x00abc", strings.Repeat("skipped", 100)} {
			b := skippable(which, text)
			takes(t, fmt.Sprintf("skippable frame %d", which), b, nil)
			for _, budget := range []int{0, -1, 1 << 24} {
				wants(t, fmt.Sprintf("skippable frame %d", which), b, budget, whole(nil, 8+len(text)))
			}
		}
	}
	for _, size := range []uint64{1<<31 - 1, 1 << 31, 1<<32 - 1} {
		b := slices.Concat([]byte{0x5f, 0x2a, 0x4d, 0x18}, low(size, 4), []byte("much less"))
		wants(t, "a great size", b, 0, refused(api.ErrTruncated, ""))
	}
	for _, first := range []uint64{0x184D2A4F, 0x184D2A60, 0x194D2A50, 0x174D2A5F, 0x184E2A50, 0x184D2B50, 0xFD2FB527, 0xFD2FB529, 0xFD2EB528, 0xFC2FB528, 0, 1<<32 - 1} {
		wants(t, fmt.Sprintf("%x", first), slices.Concat(low(first, 4), make([]byte, 9)), 1<<24, refused(api.ErrMalformed, ""))
		wants(t, fmt.Sprintf("%x alone", first), low(first, 4), 1<<24, refused(api.ErrMalformed, ""))
		wants(t, fmt.Sprintf("%x cut", first), low(first, 3), 1<<24, refused(api.ErrTruncated, ""))
	}
}

// parsed lays a text as blocks of a size, whose copies reach as far back as a window lets them.
func (p *pen) parsed(text []byte, level, window, size int) {
	p.t.Helper()
	for at := 0; at < len(text); at += size {
		end := min(at+size, len(text))
		var lits []byte
		var l []api.Seq
		rep, place := p.rep, at
		for _, s := range finder.Parse(text[:end], at, level, window, 3, 1<<16) {
			lits = append(lits, text[place:place+s.Lits]...)
			place += s.Lits + s.Match
			if s.Match == 0 {
				break
			}
			back := sequences.Pick(&rep, s.Lits, s.Back)
			if _, e := sequences.Value(&rep, s.Lits, back); e != api.OK {
				p.t.Fatalf("Value of Pick: %d", int(e))
			}
			l = append(l, api.Seq{Lits: s.Lits, Match: s.Match, Back: back})
		}
		p.packed(lits, l...)
	}
}

// P15.1, P15.2: whole texts, cut into blocks of many sizes, with a window that is smaller than a block and greater ones.
func TestTexts(t *testing.T) {
	r := rand.New(rand.NewSource(15))
	words := []string{"bale", "twine", "straw", " ", " ", ", ", "the ", "of ", "and ", "\n", "0", "12"}
	var text []byte
	for len(text) < 150_000 {
		text = append(text, words[r.Intn(len(words))]...)
		if r.Intn(10) == 0 {
			text = append(text, byte(r.Intn(256)))
		}
	}
	for _, x := range []struct{ n, window, size int }{
		{3000, 0, 1024}, {3000, 0, 300}, {20_000, 1, 1152}, {20_000, 3 * 8, 5000}, {150_000, 7*8 + 5, 131072}, {150_000, 6 * 8, 40_000},
	} {
		window := 1 << (10 + x.window/8)
		p := newPen(t)
		p.parsed(text[:x.n], 2, window, x.size)
		if !bytes.Equal(p.content, text[:x.n]) {
			t.Fatal("the steps are none of the text")
		}
		b := p.frame(shape{window: byte(x.window), sum: true, form: 2, size: uint64(x.n)})
		if len(b) > x.n*3/4 {
			t.Errorf("%d bytes in %d", x.n, len(b))
		}
		takes(t, fmt.Sprintf("%d bytes in blocks of %d", x.n, x.size), b, text[:x.n])
	}
}
