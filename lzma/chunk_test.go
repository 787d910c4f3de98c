package lzma

import (
	"bytes"
	"encoding/hex"
	"fmt"
	"math"
	"math/rand"
	"slices"
	"strings"
	"testing"

	"baler/api"
)

// noise gives bytes of no kind.
func noise(r *rand.Rand, n int) []byte {
	b := make([]byte, n)
	r.Read(b)
	return b
}

// eachSetting calls look for each that Props takes.
func eachSetting(look func(lc, lp, pb int)) {
	for pb := range 5 {
		for lp := range 5 {
			for lc := range 5 - lp {
				look(lc, lp, pb)
			}
		}
	}
}

// P12.3: the chapter's examples.
func TestChunkExamples(t *testing.T) {
	for _, x := range []struct {
		b    []byte
		n    int
		want string
		e    api.Errno
	}{
		{make([]byte, 6), 1, "\x00", api.OK},
		{make([]byte, 5), 1, "", api.ErrMalformed},
		{make([]byte, 7), 1, "", api.ErrMalformed},
		{[]byte{1, 0, 0, 0, 0, 0}, 1, "", api.ErrMalformed},
		{make([]byte, 6), 0, "", api.ErrArg},
	} {
		told, e := pairOf(t, 9).asks(0, x.b, x.n)
		if string(told) != x.want || e != x.e {
			t.Errorf("Chunk(% x, %d) = %q, %d", x.b, x.n, told, int(e))
		}
	}
}

// P12.3: chunks that another program made, one behind the other.
func TestChunkOfAnotherProgram(t *testing.T) {
	var text strings.Builder
	for k := range 60 {
		fmt.Fprintf(&text, "line %d of %d; ", k*k, k%7)
	}
	for props, digits := range map[byte]string{
		0x5d: "00361a4a1f08a026034d0727821a8fad2bbc650ce7a1dcbe73af72baf5cbbd4f135aa3c2f07afa308f47ecb721cbc0b3caf4" +
			"930a0f51c539727591b81423c786ca5a6c2964ade33f78daac40b0daf1a41f16bfcedc633cd3fc18ba8d1c7ce26d2f283141" +
			"2fd17d70a733e65e2391340d4d461467e85ac7323dd377c6c0a07430aec62aa8d8cf1a8104d6cf3245e6ffc365715d2b04a5" +
			"783123130d9b24cb8e96b19b77b129565d3bed5582650d1fb63833cff603be0e0a717538b6898f1ba3f0a678bf5370bac02f" +
			"cc8bd08db5f7aeb5dbcbab15f477fda489df15717a1a83a6cb71b5e700",
		0xd0: "00361a49c65100c0406f340391906c33c050fc73efc14308d79e6b5a639ea742cfa72f0d2d8daf7bbebf58ecf144f3e526e4" +
			"36243ae2f2ce5334b2c5351c458da422f4c54fb420a3e43bb7394a9185241417fad2701cf7acbc8ad642d58656c57e641796" +
			"d99233e0ec0449edc91caf726b6cc2eb3e13d3a967216346a0474dd02ae2b38561776ef57a38eeef6b98edffe6defe91284d" +
			"93bef99906b9228013d2456f8857b2f2b56cd82b25c099b64b849a9f7152dd14aa77b1e7303f941ecfb63192f4d35419bc65" +
			"6b7ba80bb5f9ee23bf0e46e7f947eddef498a22faf3c8c7c5611701e27461b5632c8f849d468c4965cb262ea397eb8c21f8c" +
			"e2425c187ee8968cbb3000dc8bc77d63ab6ee0e6533700",
	} {
		b, err := hex.DecodeString(digits)
		if err != nil {
			t.Fatal(err)
		}
		s := New()
		if e := s.Props(props); e != api.OK {
			t.Fatal(e)
		}
		if told, e := s.Chunk(windowOf(t, 1<<16), 0, b, text.Len()); e != api.OK || string(told) != text.String() {
			t.Errorf("%q, %d", told, int(e))
		}
	}
}

// P12.3: each byte, with the state below 7 and behind each other byte that stands rep0 + 1 back.
func TestBytes(t *testing.T) {
	for other := range 256 {
		x := pairOf(t, 9)
		p := x.pen(0)
		for b := range 256 {
			p.put(byteOf(byte(other)), shortOf(), byteOf(byte(b)))
			if p.m.state > 6 {
				t.Fatal(p.m.state)
			}
		}
		x.tells(p)
	}
}

// P12.3: in each state each kind of operation, as far as one leads there.
func TestOperationsInEachState(t *testing.T) {
	ways := [phases][]op{
		0: {}, 1: {matchOf(0, 2), matchOf(0, 2), byteOf('1'), byteOf('2')}, 2: {repeatOf(0, 2), byteOf('1'), byteOf('2')},
		3: {shortOf(), byteOf('1'), byteOf('2')}, 4: {matchOf(0, 2), byteOf('1')}, 5: {repeatOf(0, 2), byteOf('1')},
		6: {shortOf(), byteOf('1')}, 7: {matchOf(0, 2)}, 8: {repeatOf(0, 2)}, 9: {shortOf()},
		10: {shortOf(), matchOf(0, 2)}, 11: {shortOf(), shortOf()},
	}
	kinds := []op{byteOf('x'), matchOf(1, 3), matchOf(4, 20), shortOf(), repeatOf(0, 4), repeatOf(1, 5), repeatOf(2, 12), repeatOf(3, 30)}
	for state, way := range ways {
		for _, first := range kinds {
			for _, second := range kinds {
				x := pairOf(t, 99)
				x.tells(x.pen(0).text("abcdefgh").put(matchOf(5, 2), matchOf(3, 2), matchOf(2, 2), matchOf(1, 2)).text("ijklmnop"))
				p := x.pen(16).put(way...)
				if p.m.state != state {
					t.Fatalf("state %d, not %d", p.m.state, state)
				}
				x.tells(p.put(first, second).text("end"))
			}
		}
	}
}

// P12.3: matches and repeats of every length, at each place; with lengths that come to just n, and to one beyond it.
func TestLengths(t *testing.T) {
	for length := 2; length <= 273; length++ {
		for _, o := range []op{matchOf(2, length), repeatOf(0, length), repeatOf(3, length)} {
			for total := range 4 {
				x := pairOf(t, 300).props(0, 0, 4).holds([]byte("xyz"))
				p := x.pen(total).text("abcdefg").put(o)
				x.refuses(p, 7+length-1, api.ErrMalformed)
				if len(x.l.all) != 10 {
					t.Fatalf("%d bytes were put", len(x.l.all)-3)
				}
				x.window(300).reset().holds([]byte("xyz"))
				x.tells(p)
			}
		}
	}
}

// P12.3: each length at each place that pb tells apart, in one chunk, so that chances of one place would mix with those of another.
func TestLengthsAtEachPlace(t *testing.T) {
	r := rand.New(rand.NewSource(2))
	for pb := range 5 {
		x := pairOf(t, 1<<16).props(1, 1, pb)
		p := x.pen(3).text("some bytes")
		for range 3 {
			for _, length := range r.Perm(272) {
				p.put(matchOf(uint32(r.Intn(9)), 2+length), repeatOf(r.Intn(2), 2+r.Intn(18)), byteOf(byte(length)), shortOf())
			}
		}
		x.tells(p)
	}
}

// P12.3: distances of each slot that a window can have: the least and the greatest of it, and some between, by each length's set.
func TestDistances(t *testing.T) {
	r := rand.New(rand.NewSource(3))
	x := pairOf(t, 1<<24)
	x.holds(noise(r, 1<<24))
	var fars []uint32
	for slot := range 48 {
		from, to := uint32(slot), uint32(slot)
		if slot >= 4 {
			k, base := slotParts(slot)
			from, to = base, base+1<<k-1
		}
		fars = append(fars, from, to, from+(to-from)/3, from+uint32(r.Int63n(int64(to-from)+1)))
	}
	p := x.pen(1)
	for length := 2; length <= 7; length++ {
		for _, k := range r.Perm(len(fars)) {
			p.put(matchOf(fars[k], length))
		}
	}
	if slot, _, _ := slotOf(1<<24 - 1); slot != 47 || !slices.Contains(fars, 1<<24-1) || !slices.Contains(fars, 3) {
		t.Fatal("not all slots")
	}
	x.tells(p)
}

// P12.3: each distance below 300, by each length's set.
func TestEachNearDistance(t *testing.T) {
	r := rand.New(rand.NewSource(4))
	x := pairOf(t, 1<<16).holds(noise(r, 300))
	p := x.pen(300)
	for length := 2; length <= 6; length++ {
		for _, far := range r.Perm(300) {
			p.put(matchOf(uint32(far), length))
		}
	}
	x.tells(p)
}

// P12.3: repeats of each of the four distances, which move up then.
func TestRepeats(t *testing.T) {
	text := "abcdefghijklmnopqrstuvwxyz"
	for _, x := range []struct {
		which []int
		reps  [4]uint32
	}{
		{nil, [4]uint32{1, 5, 11, 19}}, {[]int{0}, [4]uint32{1, 5, 11, 19}}, {[]int{1}, [4]uint32{5, 1, 11, 19}},
		{[]int{2}, [4]uint32{11, 1, 5, 19}}, {[]int{3}, [4]uint32{19, 1, 5, 11}}, {[]int{3, 3}, [4]uint32{11, 19, 1, 5}},
		{[]int{1, 2, 3}, [4]uint32{19, 11, 5, 1}}, {[]int{2, 0, 1}, [4]uint32{1, 11, 5, 19}},
	} {
		for _, behind := range []string{"", "!", "!!", "!!!!!"} {
			pr := pairOf(t, 99)
			p := pr.pen(0).text(text).put(matchOf(19, 2), matchOf(11, 3), matchOf(5, 2), matchOf(1, 4)).text(behind)
			for _, which := range x.which {
				p.put(repeatOf(which, 3))
			}
			pr.tells(p)
			if pr.s.reps != x.reps {
				t.Errorf("repeats %v: %v, not %v", x.which, pr.s.reps, x.reps)
			}
		}
	}
	// By hand: the first of the distances that are told stands farthest behind.
	x := pairOf(t, 99)
	p := x.pen(0).text("abcdef").put(matchOf(5, 2), matchOf(3, 2), repeatOf(1, 2), shortOf())
	if string(p.told) != "abcdefabefefa" {
		t.Fatalf("%q", p.told)
	}
	x.tells(p)
}

// P12.3: distances at first are 0: repeats of them need no match ahead.
func TestRepeatsAtFirst(t *testing.T) {
	for which := range 4 {
		x := pairOf(t, 9)
		p := x.pen(0).text("a").put(repeatOf(which, 3), shortOf(), byteOf('b'), shortOf())
		if string(p.told) != "aaaaabb" {
			t.Fatalf("%q", p.told)
		}
		x.tells(p)
	}
}

// P12.3: all settings that Props takes: operations of all kinds, chunks one behind the other, Reset and Props between them.
func TestChunksOfAllSettings(t *testing.T) {
	r := rand.New(rand.NewSource(5))
	x := pairOf(t, 5000)
	total := 0
	eachSetting(func(lc, lp, pb int) {
		x.props(lc, lp, pb)
		for k := range 6 {
			p := x.pen(total).some(r, 1+r.Intn(3000))
			x.tells(p)
			total += len(p.told)
			switch k {
			case 2:
				x.reset()
			case 4: // the dictionary is thrown away
				x.w.Clear()
				x.l.all, total = nil, 0
			}
		}
	})
}

// P12.3: a chunk goes on with the chances, the distances and the state of the one ahead, wherever the two are cut.
func TestChunksGoOn(t *testing.T) {
	ops := []op{byteOf('a'), byteOf('b'), matchOf(1, 5), byteOf('c'), shortOf(), matchOf(3, 9), repeatOf(1, 2), byteOf('d'), repeatOf(2, 20), shortOf(), byteOf('e')}
	whole := "abababac" + "a" + "bacabacab" + "ab" + "d" + strings.Repeat("d", 20) + "d" + "e"
	for cut := 1; cut < len(ops); cut++ {
		x := pairOf(t, 99)
		first := x.pen(0).put(ops[:cut]...)
		x.tells(first)
		x.tells(x.pen(len(first.told)).put(ops[cut:]...))
		if string(x.l.all) != whole {
			t.Errorf("cut at %d: %q", cut, x.l.all)
		}
	}
}

// P12.3: n of 1, of each kind that tells so few.
func TestOneByte(t *testing.T) {
	x := pairOf(t, 9)
	x.tells(x.pen(0).text("a"))
	x.tells(x.pen(1).put(shortOf()))
	x.tells(x.pen(2).put(byteOf('b')))
	x.refuses(x.pen(3).put(repeatOf(0, 2)), 1, api.ErrMalformed)
	x.refuses(x.pen(3).put(matchOf(0, 2)), 1, api.ErrMalformed)
	x.tells(x.pen(3).put(matchOf(1, 2)))
}

// P12.3: the most bytes that a chunk tells, and one more.
func TestMostBytes(t *testing.T) {
	x := pairOf(t, 1<<20)
	p := x.pen(0).text("abc").put(matchOf(2, 273))
	for len(p.told) < 1<<21-273 {
		p.put(repeatOf(0, 273))
	}
	p.put(matchOf(2, 1<<21-len(p.told)))
	if len(p.told) != 1<<21 {
		t.Fatal(len(p.told))
	}
	x.tells(p)
	x = pairOf(t, 1<<20)
	x.refuses(p.put(shortOf()), len(p.told), api.ErrArg)
	if *x.s != *New() {
		t.Error("the state was changed")
	}
}

// P12.3: a distance of just what the window has, and of one more, as it fills and when it goes round.
func TestDistanceOfTheWindow(t *testing.T) {
	for _, size := range []int{1, 2, 3, 5, 16, 100} {
		for held := 1; held <= size+3; held++ {
			most := uint32(min(held, size))
			text := []byte(strings.Repeat("abcdefghi", 20)[:held])
			for _, o := range []op{matchOf(most-1, 2), matchOf(most-1, 30)} {
				x := pairOf(t, size).holds(text)
				x.tells(x.pen(held).put(o, shortOf()))
			}
			for _, far := range []uint32{most, most + 1, 1 << 24, 1<<24 + 1, 1<<31 - 1, 1 << 31, 1<<32 - 2} {
				x := pairOf(t, size).holds(text)
				x.refuses(x.pen(held).put(matchOf(far, 2)), 2, api.ErrMalformed)
				if x.s.reps != [4]uint32{far} || x.s.phase != 7 || len(x.l.all) != held {
					t.Errorf("%v, %d, %d bytes", x.s.reps, x.s.phase, len(x.l.all))
				}
				x.refuses(x.pen(held).put(shortOf()), 1, api.ErrMalformed)
				x.refuses(x.pen(held).put(repeatOf(0, 2)), 2, api.ErrMalformed)
			}
		}
	}
}

// P12.3: without any byte nothing can be copied.
func TestCopiesOfNothing(t *testing.T) {
	for _, o := range []op{matchOf(0, 2), shortOf(), repeatOf(0, 2), repeatOf(3, 2)} {
		x := pairOf(t, 9)
		x.refuses(x.pen(0).put(o), 2, api.ErrMalformed)
		x = pairOf(t, 9)
		x.refuses(x.pen(5).put(o), 2, api.ErrMalformed)
	}
}

// P12.3: a window of one byte.
func TestWindowOfOneByte(t *testing.T) {
	x := pairOf(t, 1)
	x.tells(x.pen(0).text("ab").put(matchOf(0, 273), byteOf('c'), shortOf(), repeatOf(1, 2), byteOf('d')).text("efg"))
	x.refuses(x.pen(288).text("x").put(matchOf(1, 2)), 3, api.ErrMalformed)
	if b, ok := x.w.At(1); b != 'x' || !ok {
		t.Error("the byte ahead of the error was not put")
	}
}

// P12.3: the end mark, wherever it stands, whatever its length; the state is what it is by then.
func TestEndMark(t *testing.T) {
	for _, length := range []int{2, 3, 9, 10, 273} {
		for _, text := range []string{"", "a", "abcdefgh"} {
			x := pairOf(t, 9)
			x.refuses(x.pen(0).text(text).put(matchOf(1<<32-1, length)), 300, api.ErrMalformed)
			if string(x.l.all) != text || x.s.reps != [4]uint32{1<<32 - 1} || x.s.phase != 7 {
				t.Errorf("%q, %v, %d", x.l.all, x.s.reps, x.s.phase)
			}
			// Its distance is one of the last four then, and names no byte.
			x.tells(x.pen(len(text)).put(byteOf('z')))
			x.refuses(x.pen(99).put(repeatOf(0, 2)), 2, api.ErrMalformed)
			x.tells(x.pen(99).put(repeatOf(1, 2), byteOf('y')))
		}
	}
	// Behind all n bytes it is not read any more: bytes are left.
	x := pairOf(t, 9)
	p := x.pen(0).text("abc").put(matchOf(1<<32-1, 2))
	x.refuses(p, 3, api.ErrMalformed)
	if string(x.l.all) != "abc" || x.s.phase != 0 {
		t.Errorf("%q, %d", x.l.all, x.s.phase)
	}
}

// P12.3: of total the lowest four bits count, and whether it is 0.
func TestTotals(t *testing.T) {
	r := rand.New(rand.NewSource(6))
	eachSetting(func(lc, lp, pb int) {
		for place := range 16 {
			x := pairOf(t, 500).props(lc, lp, pb).holds([]byte("\xff\x80some bytes\xe7"))
			p := x.pen(place).some(r, 100)
			b := p.close()
			for _, total := range []int{place, place + 16, place + 32, place + 1<<20, place + 1<<40, math.MaxInt - 15 + place} {
				if place == 0 && total == 0 {
					continue
				}
				y := pairOf(t, 500).props(lc, lp, pb).holds([]byte("\xff\x80some bytes\xe7"))
				told, e := y.asks(total, b, len(p.told))
				if place > 0 && (e != api.OK || !bytes.Equal(told, p.told)) {
					t.Fatalf("total %d in the place of %d: %q, %d", total, place, told, int(e))
				}
			}
		}
	})
}

// P12.3: behind the greatest int the places go on from 0 on, and a byte is ahead.
func TestGreatestTotal(t *testing.T) {
	r := rand.New(rand.NewSource(7))
	for range 20 {
		x := pairOf(t, 500).props(2, 2, 4).holds([]byte("\xff"))
		x.tells(x.pen(math.MaxInt).some(r, 300))
	}
}

// P12.3: with total 0 no byte is ahead, whatever the window has; with any other one there is, if the window has one.
func TestByteAhead(t *testing.T) {
	for lc := range 5 {
		laid := func(total int, ahead string) []byte {
			x := pairOf(t, 9).props(lc, 0, 0).holds([]byte(ahead))
			// A byte behind FF and one behind 0 are of unlike trees; the third one shows which the first one was of.
			p := x.pen(total).text("\x55\xff\x55\x00\x55")
			x.tells(p)
			return p.close()
		}
		none := laid(0, "")
		for _, ahead := range []string{"\xff", "\x7f", "abc", "\x00"} {
			if !bytes.Equal(laid(0, ahead), none) {
				t.Errorf("lc %d: behind %q with total 0 a byte is ahead", lc, ahead)
			}
			if unlike := !bytes.Equal(laid(16, ahead), none); unlike != (lc > 0 && ahead[len(ahead)-1]>>(8-lc) != 0) {
				t.Errorf("lc %d: behind %q with total 16: unlike: %v", lc, ahead, unlike)
			}
		}
		if !bytes.Equal(laid(16, ""), none) {
			t.Errorf("lc %d: with total 16 there is a byte ahead in an empty window", lc)
		}
	}
}

// P12.3: which byte is ahead behind a match, a repeat, a chunk.
func TestByteAheadOfEachKind(t *testing.T) {
	for lc := range 5 {
		x := pairOf(t, 99).props(lc, 0, 0)
		p := x.pen(0)
		for b := range 256 {
			p.put(byteOf(byte(b)), byteOf(byte(b*7)), matchOf(1, 2), byteOf(byte(b)), repeatOf(0, 3), byteOf(byte(b)), shortOf(), byteOf(1))
		}
		x.tells(p)
		x.tells(x.pen(len(p.told)).text("and on"))
	}
}

// P12.3: a byte with the state from 7 on where no byte stands rep0 + 1 back: it is like 0.
func TestByteLikeNone(t *testing.T) {
	for _, total := range []int{0, 1, 16, math.MaxInt} {
		for _, ahead := range []string{"", "a", "\xff\xff", "\xff\xff\xff", "abcd"} {
			for b := range 256 {
				x := pairOf(t, 9)
				x.tells(x.pen(0).text("xyz").put(matchOf(2, 2)))
				x.window(9).holds([]byte(ahead)) // another window, and no Reset
				x.tells(x.pen(total).put(byteOf(byte(b)), byteOf('x')))
			}
		}
	}
	// A chunk of zeros says the same by hand: each bit is like that of the byte 0.
	x := pairOf(t, 9)
	x.refuses(x.pen(0).put(matchOf(1<<32-1, 2)), 2, api.ErrMalformed)
	if told, e := x.asks(0, make([]byte, 6), 1); e != api.OK || string(told) != "\x00" {
		t.Errorf("%q, %d", told, int(e))
	}
}

// P12.3: windows of all sizes below the chunk's, which go round and round.
func TestSmallWindows(t *testing.T) {
	r := rand.New(rand.NewSource(8))
	for size := 1; size < 400; size += 1 + size/8 {
		x := pairOf(t, size).props(r.Intn(3), r.Intn(3), r.Intn(5))
		total := 0
		for range 5 {
			p := x.pen(total).some(r, 500)
			x.tells(p)
			total += len(p.told)
		}
	}
}
