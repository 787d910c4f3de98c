package sequences

import (
	"encoding/hex"
	"math/rand"
	"slices"
	"strings"
	"testing"

	"baler/api"
)

// kindsOf gives the three kinds of a number from 0 to 63.
func kindsOf(number int) [3]int {
	return [3]int{number / 16, number / 4 % 4, number % 4}
}

// P13.1: the chapter's examples.
func TestExamplesOfRead(t *testing.T) {
	if a := reads(t, []byte{0}, Tables{}); !a.same(answer{}) {
		t.Errorf("Read(00): %v", a)
	}
	refuses(t, "a byte behind 0", []byte{0, 0}, Tables{}, api.ErrMalformed)
}

// P13.1: each kind of each of the three tables, behind sections of each kind: 3 takes a table that was not told, one of one
// code, one that was described, and one that stood farther ahead.
func TestReadKinds(t *testing.T) {
	r := rand.New(rand.NewSource(131))
	for first := range 64 {
		for second := range 64 {
			ahead := Tables{}
			for turn, number := range []int{first, second, 63, 63} {
				var h hand
				for values, kind := range kindsOf(number) {
					if turn == 0 && kind == 3 {
						kind = 2
					}
					h.ways[values] = someWay(t, r, values, kind, ahead.three()[values])
				}
				h.points = somePoints(r, h.ways, 1+r.Intn(12))
				ahead = takes(t, "kinds", h, ahead)
				if turn == 2 {
					// A section without steps stands between: the tables ahead hold on.
					a := reads(t, []byte{0}, ahead)
					if !a.same(answer{next: ahead}) {
						t.Fatalf("no steps: %v", a)
					}
					ahead = a.next
				}
			}
		}
	}
}

// P13.1: tables of three sections, of which the third takes some of the first and some of the second.
func TestReadTablesOfThreeSections(t *testing.T) {
	r := rand.New(rand.NewSource(132))
	for kept := range 8 {
		var one, two, three hand
		for values := range 3 {
			one.ways[values] = someWay(t, r, values, 2, nil)
			two.ways[values] = someWay(t, r, values, 1, nil)
			if kept>>values&1 == 1 {
				two.ways[values] = again(one.ways[values].cells)
			}
			three.ways[values] = again(two.ways[values].cells)
		}
		one.points, two.points, three.points = somePoints(r, one.ways, 30), somePoints(r, two.ways, 30), somePoints(r, three.ways, 30)
		next := takes(t, "one", one, Tables{})
		next = takes(t, "two", two, next)
		takes(t, "three", three, next)
	}
}

// P13.1: tables ahead do not matter where no kind is 3.
func TestReadDoesNotLeanOnTablesAhead(t *testing.T) {
	r := rand.New(rand.NewSource(133))
	for number := range 64 {
		kinds := kindsOf(number)
		if slices.Contains(kinds[:], 3) {
			continue
		}
		var h hand
		for values, kind := range kinds {
			h.ways[values] = someWay(t, r, values, kind, nil)
		}
		h.points = somePoints(r, h.ways, 20)
		b := h.section(t)
		for _, ahead := range []Tables{{}, {Lits: alone(3).cells, Back: alone(4).cells, Match: alone(5).cells}, {Lits: make([]api.Cell, 7), Back: make([]api.Cell, 64), Match: []api.Cell{{Symbol: 255, Bits: 255, Base: 65535}}}} {
			if a := reads(t, b, ahead); !a.same(answer{l: h.steps(), next: h.next()}) {
				t.Fatalf("kinds %v: error %d", kinds, int(a.e))
			}
		}
	}
}

// edges gives a code with the least and the greatest number of its extra bits.
func edges(values, code int) [2]point {
	return [2]point{{code, 0}, {code, 1<<spansOfAll[values][code].bits - 1}}
}

// P13.1: all codes, with the least and the greatest of their extra bits, alone, described and in the table that is not told.
func TestReadAllCodes(t *testing.T) {
	for values := range 3 {
		for code := range boundOf(values).code + 1 {
			other := (code + 1) % (boundOf(values).code + 1)
			counts := make([]int16, max(code, other)+1)
			counts[code], counts[other] = 20, 12
			ways := []way{alone(code), described(t, counts, 5)}
			if w := untold(t, values); slices.Contains(codesIn(w.cells), code) {
				ways = append(ways, w)
			}
			for _, w := range ways {
				h := hand{ways: [3]way{alone(1), alone(0), alone(2)}}
				h.ways[values] = w
				for _, p := range edges(values, code) {
					step := [3]point{{code: 1}, {code: 0}, {code: 2}}
					step[values] = p
					h.points = append(h.points, step, step)
				}
				takes(t, "a code", h, Tables{})
				h.points = h.points[2:3]
				takes(t, "a code, once", h, Tables{})
			}
		}
	}
}

// P13.1: which values the edges of the codes are, as they stand in the chapter and in the issue.
func TestReadEdgesOfValues(t *testing.T) {
	for _, x := range []struct {
		code  [3]int
		least api.Seq
		most  api.Seq
	}{
		{[3]int{0, 0, 0}, api.Seq{Lits: 0, Match: 3, Back: 1}, api.Seq{Lits: 0, Match: 3, Back: 1}},
		{[3]int{15, 1, 31}, api.Seq{Lits: 15, Match: 34, Back: 2}, api.Seq{Lits: 15, Match: 34, Back: 3}},
		{[3]int{16, 2, 32}, api.Seq{Lits: 16, Match: 35, Back: 4}, api.Seq{Lits: 17, Match: 36, Back: 7}},
		{[3]int{25, 8, 43}, api.Seq{Lits: 64, Match: 131, Back: 256}, api.Seq{Lits: 127, Match: 258, Back: 511}},
		{[3]int{34, 28, 51}, api.Seq{Lits: 32768, Match: 32771, Back: 1 << 28}, api.Seq{Lits: 65535, Match: 65538, Back: 1<<29 - 1}},
		{[3]int{35, 31, 52}, api.Seq{Lits: 65536, Match: 65539, Back: 1 << 31}, api.Seq{Lits: 131071, Match: 131074, Back: 1<<32 - 1}},
	} {
		h := hand{ways: [3]way{alone(x.code[0]), alone(x.code[1]), alone(x.code[2])}}
		for k := range 2 {
			h.points = append(h.points, [3]point{edges(0, x.code[0])[k], edges(1, x.code[1])[k], edges(2, x.code[2])[k]})
		}
		takes(t, "edges", h, Tables{})
		if l, _, e := Read(h.section(t), Tables{}); e != api.OK || !slices.Equal(l, []api.Seq{x.least, x.most}) {
			t.Errorf("codes %v: %v, %d", x.code, l, int(e))
		}
	}
}

// P13.1: tables that have all codes of their kind, with the greatest log and with lesser ones.
func TestReadFullTables(t *testing.T) {
	r := rand.New(rand.NewSource(134))
	for spare := range 3 {
		var h hand
		for values := range 3 {
			most := boundOf(values)
			log := max(most.log-spare, log2(most.code)+1)
			counts := slices.Repeat([]int16{1}, most.code+1)
			for k := range counts {
				if k%3 == 0 {
					counts[k] = -1
				}
			}
			counts[1] += int16(1<<log - len(counts))
			h.ways[values] = described(t, counts, log)
		}
		for code := range 53 {
			for k := range 2 {
				h.points = append(h.points, [3]point{edges(ofLits, code%36)[k], edges(ofBack, code%32)[1-k], edges(ofMatch, code)[k]})
			}
		}
		r.Shuffle(len(h.points), func(i, j int) { h.points[i], h.points[j] = h.points[j], h.points[i] })
		h.points = append(h.points, somePoints(r, h.ways, 3000)...)
		next := takes(t, "full tables", h, Tables{})
		for values := range 3 {
			h.ways[values] = again(h.ways[values].cells)
		}
		takes(t, "full tables, ahead", h, next)
	}
}

// P13.1: n in each of the forms that can tell it. Without extra bits and with tables of one code the tail has no bits.
func TestReadNumbers(t *testing.T) {
	ahead := Tables{Lits: alone(9).cells}
	for _, n := range []int{0, 1, 2, 127, 128, 129, 255, 256, 257, 32510, 32511, 32512, 32513, 32767, 32768, 65535, 65536, 98046, 98047} {
		forms := 0
		for size := 1; size <= 3; size++ {
			if size < bytesFor(n) || size == 3 && n < 32512 {
				continue
			}
			forms++
			b := numberOf(t, n, size)
			if n == 0 {
				if a := reads(t, b, ahead); !a.same(answer{next: ahead}) {
					t.Errorf("% x: %v", b, a)
				}
				refuses(t, "0 and a byte", append(b, 0), ahead, api.ErrMalformed)
				refuses(t, "0 and what n of 1 would have", append(b, 0x54, 0, 0, 0, 1), ahead, api.ErrMalformed)
				continue
			}
			a := reads(t, slices.Concat(b, []byte{0x54, 4, 0, 5, 1}), ahead)
			if len(a.l) != n || a.e != api.OK {
				t.Fatalf("n %d in %d bytes: %d steps, %d", n, size, len(a.l), int(a.e))
			}
			for _, step := range a.l {
				if step != (api.Seq{Lits: 4, Match: 8, Back: 1}) {
					t.Fatalf("n %d: %v", n, step)
				}
			}
			if n > 1000 {
				continue
			}
			// One bit of back for each step: just n bits, and one more and one less.
			for more := -1; more <= 1; more++ {
				c := slices.Concat(b, []byte{0x54, 4, 1, 5}, tailOfSigns(byTurns(n+more)))
				if a := reads(t, c, ahead); (a.e == api.OK) != (more == 0) || len(a.l) != 0 && len(a.l) != n {
					t.Fatalf("n %d, %d bits: %d", n, n+more, int(a.e))
				}
			}
		}
		if forms == 0 {
			t.Fatalf("%d has no form", n)
		}
	}
}

// byTurns gives n signs.
func byTurns(n int) string {
	return strings.Repeat("01", n)[:n]
}

// P13.1: the lower byte of an n in three bytes stands first, the higher one of an n in two bytes.
func TestReadOrderOfNumbers(t *testing.T) {
	for _, x := range []struct {
		b []byte
		n int
	}{{[]byte{128, 5}, 5}, {[]byte{129, 5}, 261}, {[]byte{254, 255}, 32511}, {[]byte{255, 0, 0}, 32512}, {[]byte{255, 1, 0}, 32513}, {[]byte{255, 0, 1}, 32768}, {[]byte{255, 255, 128}, 65535}, {[]byte{255, 255, 255}, 98047}} {
		b := slices.Concat(x.b, []byte{0x54, 0, 0, 0, 1})
		if l, _, e := Read(b, Tables{}); e != api.OK || len(l) != x.n {
			t.Errorf("% x: %d steps, %d; want %d", x.b, len(l), int(e), x.n)
		}
	}
}

// P13.1: in the end Left is 0: tails with some bits more, ahead of the first one, and fewer; and none of the states follows
// behind the last step.
func TestReadJustTheBits(t *testing.T) {
	r := rand.New(rand.NewSource(135))
	for number := range 27 {
		kinds := [3]int{number / 9, number / 3 % 3, number % 3}
		for _, n := range []int{1, 2, 3, 40} {
			var h hand
			for values, kind := range kinds {
				h.ways[values] = someWay(t, r, values, kind, nil)
			}
			h.points = somePoints(r, h.ways, n)
			takes(t, "just the bits", h, Tables{})
			signs, ok := signsOfTail(h.tail(t))
			if !ok {
				t.Fatal("no mark")
			}
			head := h.head(t)
			for _, more := range []string{"0", "1", "00", "10101", "00000000", "1111111100000000"} {
				refuses(t, "bits more", slices.Concat(head, tailOfSigns(more+signs)), Tables{}, api.ErrMalformed)
			}
			for fewer := 1; fewer <= min(len(signs), 12); fewer++ {
				refuses(t, "bits fewer", slices.Concat(head, tailOfSigns(signs[fewer:])), Tables{}, api.ErrMalformed)
			}
			refuses(t, "no bits", slices.Concat(head, []byte{1}), Tables{}, map[bool]api.Errno{true: api.OK, false: api.ErrMalformed}[signs == ""])
		}
	}
}

// P13.1: one step by tables that are not told: three first states, the extra bits, nothing behind.
func TestReadOneStepByHand(t *testing.T) {
	// State 0 of all three: codes 0; the tail has 6 + 5 + 6 bits of 0.
	b := slices.Concat([]byte{1, 0}, tailOfSigns("00000000000000000"))
	if a := reads(t, b, Tables{}); !slices.Equal(a.l, []api.Seq{{Lits: 0, Match: 3, Back: 1}}) {
		t.Errorf("% x: %v, %d", b, a.l, int(a.e))
	}
	// The test of both orders: back's extra bits are read first, then those of match, then those of literals.
	b = slices.Concat([]byte{1, 0x54, 20, 3, 36}, tailOfSigns("01"+"10"+"110"))
	if a := reads(t, b, Tables{}); !slices.Equal(a.l, []api.Seq{{Lits: 24 + 2, Match: 43 + 1, Back: 8 + 3}}) {
		t.Errorf("% x: %v, %d", b, a.l, int(a.e))
	}
	// The next states: of literals, of match, of back.
	lits, back, match := described(t, []int16{31, 1}, 5), described(t, []int16{30, 2}, 5), described(t, []int16{29, 3}, 5)
	h := hand{ways: [3]way{lits, back, match}, points: [][3]point{{{0, 0}, {1, 1}, {1, 0}}, {{1, 0}, {0, 0}, {1, 0}}, {{1, 0}, {1, 0}, {0, 0}}}}
	takes(t, "next states", h, Tables{})
}

// P13.1: b of just MaxBlock bytes is read, one more is ErrLong, whatever it is.
func TestReadLongest(t *testing.T) {
	const n = 26213 // of 40 bits each: all bytes but those of the head, the last of which has the mark alone
	head := slices.Concat(numberOf(t, n, 2), []byte{0x54, 35, 8, 52})
	r := rand.New(rand.NewSource(136))
	body := make([]byte, n*5)
	r.Read(body)
	b := slices.Concat(head, body, []byte{1})
	if len(b) != api.MaxBlock {
		t.Fatal(len(b))
	}
	if a := reads(t, b, Tables{}); len(a.l) != n || a.e != api.OK {
		t.Errorf("%d steps, %d", len(a.l), int(a.e))
	}
	refuses(t, "one more", slices.Concat(head, []byte{0}, body, []byte{1}), Tables{}, api.ErrLong)
	refuses(t, "one more, behind", append(b, 1), Tables{}, api.ErrLong)
	for _, first := range []byte{0, 1, 128, 255} {
		for _, size := range []int{api.MaxBlock, api.MaxBlock + 1, 2 * api.MaxBlock} {
			b := make([]byte, size)
			b[0], b[1] = first, 3
			want := api.ErrMalformed
			if size > api.MaxBlock {
				want = api.ErrLong
			}
			refuses(t, "too long and none", b, Tables{}, want)
		}
	}
}

// wordText makes a text of words, some more often than others.
func wordText(n, words int) (b []byte) {
	x := uint32(1)
	next := func() int {
		x = x*1664525 + 1013904223
		return int(x >> 16)
	}
	for len(b) < n {
		w := next() % words
		w = next() % (w + 1)
		for k := range 2 + w%7 {
			b = append(b, byte('a'+(w*7+k*k*5)%26))
		}
		b = append(b, ' ')
	}
	return b[:n]
}

// P13.1, P13.3: sections of another encoder: the copies that they tell are in the text from which it made them.
func TestReadOfAnotherEncoder(t *testing.T) {
	for _, x := range []struct {
		n, words int
		kinds    byte
		section  string
	}{
		{400, 60, 0x00, "16003c5bcc6219a04cb6a805402d7979beeafa801670161604a52fd0030d29caac8c8035362d04e73ccb486288892a97aa9b97853c709ac4989533"},
		{400, 5, 0xa8, "23a8c09362610c20028328b50311c4040a0ab8c04cb5d401bd807b2ee3f9cb7167f217026f8576630536f9ca257b85903b85ade61e8ac7c0bb6631105964f1238a8136dea3ca255c0a"},
		{1000, 60, 0x20, "3e2020424214947c50102039d2c01668bb011352be0cb422be23e3ee269024da2e198d0be04679c28a904f4e92ec8421632d3c0c91aca7628265dbcf4e0992bb7fcb25ccacb8424895604086b2c6e0c0ab09d0d0f7c2bc34c679e82d58978c1b278d1645d1bfb835013c15b390010ad9e205406979d9afba0f68c3593004f50b74a02155662501ab9b16e69c77469211139b4b6df3b295073a9318b37b06"},
	} {
		b, err := hex.DecodeString(x.section)
		if err != nil || b[1] != x.kinds {
			t.Fatal(err, b[1])
		}
		text := wordText(x.n, x.words)
		rep, at := [3]int{1, 4, 8}, 0
		for _, step := range reads(t, b, Tables{}).l {
			at += step.Lits
			back, e := Value(&rep, step.Lits, step.Back)
			if e != api.OK || back > at || at+step.Match > len(text) {
				t.Fatalf("place %d: %v, %d back, %d", at, step, back, int(e))
			}
			for range step.Match {
				if text[at] != text[at-back] {
					t.Fatalf("place %d: %v, %d back: another byte stands there", at, step, back)
				}
				at++
			}
		}
		if at < x.n*3/4 {
			t.Errorf("the steps end at %d of %d", at, x.n)
		}
	}
}

// R3: nothing that was handed in is kept, and no two answers, nor two lists of one answer, share memory.
func TestReadGivesNewMemory(t *testing.T) {
	r := rand.New(rand.NewSource(137))
	shared := untold(t, ofLits).cells
	ahead := Tables{Lits: shared, Back: alone(4).cells, Match: shared}
	sections := [][]byte{{0}, {128, 0}}
	for number := range 64 {
		var h hand
		for values, kind := range kindsOf(number) {
			h.ways[values] = someWay(t, r, values, kind, ahead.three()[values])
		}
		h.points = somePoints(r, h.ways, 9)
		sections = append(sections, h.section(t))
	}
	for _, b := range sections {
		want := readModel(b, ahead)
		ownB, ownT := slices.Clone(b), copyOf(ahead)
		ownT.Match = ownT.Lits
		var one, two answer
		one.l, one.next, one.e = Read(ownB, ownT)
		two.l, two.next, two.e = Read(ownB, ownT)
		spoil(ownB, 0xee)
		spoil(ownT.Lits, api.Cell{Symbol: 200, Bits: 200, Base: 200})
		spoil(ownT.Back, api.Cell{Symbol: 201, Bits: 201, Base: 201})
		if !one.same(want) || !two.same(want) {
			t.Fatalf("% x: what was handed in is kept", b)
		}
		for k, spoils := range []func(){
			func() { spoil(one.l, api.Seq{Lits: -9, Match: -9, Back: -9}) },
			func() { spoil(one.next.Lits, api.Cell{Symbol: 202}) },
			func() { spoil(one.next.Back, api.Cell{Symbol: 203}) },
			func() { spoil(one.next.Match, api.Cell{Symbol: 204}) },
		} {
			spoils()
			if !two.same(want) || !reads(t, b, ahead).same(want) {
				t.Fatalf("% x: answers share list %d", b, k)
			}
			left := answer{l: want.l, next: want.next}
			now := answer{l: one.l, next: one.next}
			for gone := range k + 1 {
				switch gone {
				case 0:
					left.l, now.l = nil, nil
				case 1:
					left.next.Lits, now.next.Lits = nil, nil
				case 2:
					left.next.Back, now.next.Back = nil, nil
				default:
					left.next.Match, now.next.Match = nil, nil
				}
			}
			if !now.same(left) {
				t.Fatalf("% x: lists of one answer share memory with list %d", b, k)
			}
		}
	}
}

// spoil writes into all the room that a list has.
func spoil[T any](list []T, x T) {
	for k := range list[:cap(list)] {
		list[:cap(list)][k] = x
	}
}
