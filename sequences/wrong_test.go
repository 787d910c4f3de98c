package sequences

import (
	"math/rand"
	"slices"
	"testing"

	"baler/api"
	"baler/states"
)

// P13.1: no bytes.
func TestReadNothing(t *testing.T) {
	for _, b := range [][]byte{nil, {}} {
		refuses(t, "nothing", b, Tables{}, api.ErrTruncated)
		refuses(t, "nothing, tables ahead", b, Tables{Lits: alone(1).cells, Back: alone(1).cells, Match: alone(1).cells}, api.ErrTruncated)
	}
}

// P13.1: sections cut at each of their places: ErrTruncated ahead of the tail's beginning, behind it ErrMalformed or what the
// model tells.
func TestReadCut(t *testing.T) {
	r := rand.New(rand.NewSource(1301))
	ahead := Tables{Lits: untold(t, ofLits).cells, Back: untold(t, ofBack).cells, Match: untold(t, ofMatch).cells}
	for number := range 64 {
		for _, n := range []int{1, 5, 130} {
			var h hand
			for values, kind := range kindsOf(number) {
				h.ways[values] = someWay(t, r, values, kind, ahead.three()[values])
			}
			h.points = somePoints(r, h.ways, n)
			b, head := h.section(t), h.head(t)
			for cut := range b {
				switch {
				case cut < len(head):
					refuses(t, "cut in the head", b[:cut], ahead, api.ErrTruncated)
				case cut == len(head):
					refuses(t, "no tail", b[:cut], ahead, api.ErrMalformed)
				default:
					reads(t, b[:cut], ahead)
				}
			}
		}
	}
}

// P13.1: the number, cut.
func TestReadCutNumbers(t *testing.T) {
	for _, b := range [][]byte{{128}, {129}, {254}, {255}, {255, 0}, {255, 255}, {1}, {127}, {128, 1}, {255, 0, 0}} {
		refuses(t, "cut", b, Tables{}, api.ErrTruncated)
	}
}

// P13.1: bits 1 and 0 of the byte of kinds; ahead of all that follows.
func TestReadLowBitsOfKinds(t *testing.T) {
	for kinds := range 256 {
		if kinds%4 == 0 {
			continue
		}
		for _, behind := range [][]byte{nil, {0}, {255}, {0, 0, 0, 1}, {36, 32, 53}, {0, 0, 0}} {
			refuses(t, "low bits", slices.Concat([]byte{1, byte(kinds)}, behind), Tables{}, api.ErrMalformed)
		}
	}
}

// P13.1: a code alone that is just the most code, one above it, and the greatest byte.
func TestReadCodeAlone(t *testing.T) {
	for values := range 3 {
		for code := range 256 {
			ways := [3]way{alone(0), alone(0), alone(0)}
			ways[values] = alone(code)
			if code <= boundOf(values).code {
				takes(t, "alone", hand{ways: ways, points: [][3]point{onePoint(ways)}}, Tables{})
				continue
			}
			head := slices.Concat([]byte{1, 0x54}, ways[0].bytes, ways[1].bytes, ways[2].bytes)
			refuses(t, "a code too great", append(head, 1), Tables{}, api.ErrMalformed)
			// What is behind it does not matter, nor that there is nothing.
			refuses(t, "a code too great, and no more", head[:3+values], Tables{}, api.ErrMalformed)
		}
	}
}

// onePoint is a step of tables of one code, without extra bits that are not 0.
func onePoint(ways [3]way) (p [3]point) {
	for values, w := range ways {
		p[values].code = int(w.cells[0].Symbol)
	}
	return p
}

// P13.1: descriptions of just the most log and the most code, and one above them.
func TestReadDescriptionsAtTheBounds(t *testing.T) {
	for values := range 3 {
		most := boundOf(values)
		for log := 5; log <= 12; log++ {
			for _, last := range []int{most.code - 1, most.code, most.code + 1, most.code + 20, 255} {
				counts := make([]int16, last+1)
				counts[last], counts[0] = 1, int16(1<<log-1)
				w := described(t, counts, log)
				ways := [3]way{alone(0), alone(0), alone(0)}
				ways[values] = w
				h := hand{ways: ways, points: [][3]point{{}, {}}}
				if log <= most.log && last <= most.code {
					h.points[1][values].code = last
					takes(t, "a description", h, Tables{})
				} else {
					refuses(t, "a description that goes too far", h.section(t), Tables{}, api.ErrMalformed)
				}
			}
		}
	}
}

// P13.1: any error of a description but ErrTruncated is ErrMalformed, and ErrTruncated stays.
func TestReadWrongDescriptions(t *testing.T) {
	r := rand.New(rand.NewSource(1302))
	seen := map[api.Errno]int{}
	for range 20000 {
		values := r.Intn(3)
		b := make([]byte, r.Intn(30))
		r.Read(b)
		if len(b) > 0 {
			b[0] = b[0]&0xf0 | byte(r.Intn(6))
		}
		_, _, _, e := states.Read(b, boundOf(values).log, boundOf(values).code)
		seen[e]++
		kinds := []int{0x80, 0x20, 0x08}[values]
		a := reads(t, slices.Concat([]byte{3, byte(kinds)}, b), Tables{})
		if e == api.ErrTruncated && a.e != e || e != api.OK && e != api.ErrTruncated && a.e != api.ErrMalformed {
			t.Fatalf("a description of error %d: %d", int(e), int(a.e))
		}
	}
	for _, e := range []api.Errno{api.OK, api.ErrTruncated, api.ErrMalformed} {
		if seen[e] < 100 {
			t.Errorf("error %d came %d times", int(e), seen[e])
		}
	}
}

// P13.1: kind 3 where no table stands ahead, of each of the three.
func TestReadNoTableAhead(t *testing.T) {
	r := rand.New(rand.NewSource(1304))
	full := Tables{Lits: untold(t, ofLits).cells, Back: untold(t, ofBack).cells, Match: untold(t, ofMatch).cells}
	for number := range 64 {
		kinds := kindsOf(number)
		var h hand
		for values, kind := range kinds {
			h.ways[values] = someWay(t, r, values, kind, full.three()[values])
		}
		h.points = somePoints(r, h.ways, 4)
		b := h.section(t)
		takes(t, "all tables", h, full)
		for missing := range 3 {
			for _, none := range [][]api.Cell{nil, {}, full.Lits[:0]} {
				ahead := full
				*[]*[]api.Cell{&ahead.Lits, &ahead.Back, &ahead.Match}[missing] = none
				want := api.OK
				if kinds[missing] == 3 {
					want = api.ErrMalformed
				}
				refuses(t, "a table is missing", b, ahead, want)
			}
		}
	}
}

// P13.1: a tail of no bytes, and tails whose last byte is 0.
func TestReadNoTail(t *testing.T) {
	for _, head := range [][]byte{{1, 0x54, 0, 0, 0}, {1, 0}, {2, 0x14, 3, 4}, {200, 1, 0}} {
		for _, end := range [][]byte{nil, {}, {0}, {1, 0}, {255, 255, 255, 255, 0}, make([]byte, 50)} {
			refuses(t, "no tail", slices.Concat(head, end), Tables{}, api.ErrMalformed)
		}
	}
}

// noTables are cells that neither a code alone nor a description makes, for each kind of values.
func noTables(t *testing.T, values int) map[string][]api.Cell {
	t.Helper()
	most := boundOf(values)
	good := described(t, []int16{20, 11, -1}, 5).cells
	changed := func(change func(cells []api.Cell)) []api.Cell {
		cells := slices.Clone(good)
		change(cells)
		return cells
	}
	tooGreat := make([]int16, most.code+2)
	tooGreat[0], tooGreat[most.code+1] = 31, 1
	return map[string][]api.Cell{
		"none":                        nil,
		"two cells":                   {{Symbol: 0, Bits: 1, Base: 0}, {Symbol: 1, Bits: 1, Base: 0}},
		"three cells":                 {{}, {}, {}},
		"sixteen cells":               make([]api.Cell, 16),
		"31 cells":                    good[:31],
		"33 cells":                    append(slices.Clone(good), good[0]),
		"cells of 0":                  make([]api.Cell, 32),
		"many cells of 0":             make([]api.Cell, 1<<most.log),
		"a log too great":             cellsOf(t, []int16{int16(1 << (most.log + 1))}, most.log+1),
		"the greatest log":            cellsOf(t, []int16{4000, 96}, 12),
		"a code too great":            cellsOf(t, tooGreat, 5),
		"one cell, a code too great":  {{Symbol: uint8(most.code + 1)}},
		"one cell, the greatest code": {{Symbol: 255}},
		"one cell with a bit":         {{Symbol: 1, Bits: 1}},
		"one cell with a base":        {{Symbol: 1, Base: 1}},
		"one cell, all it can be":     {{Symbol: 255, Bits: 255, Base: 65535}},
		"all that cells can be":       slices.Repeat([]api.Cell{{Symbol: 255, Bits: 255, Base: 65535}}, 64),
		"many bits":                   slices.Repeat([]api.Cell{{Symbol: 1, Bits: 64, Base: 0}}, 64),
		"a great base":                slices.Repeat([]api.Cell{{Symbol: 1, Bits: 0, Base: 64}}, 64),
		"a bit more":                  changed(func(c []api.Cell) { c[3].Bits++ }),
		"a bit less":                  changed(func(c []api.Cell) { c[31].Bits-- }),
		"a base more":                 changed(func(c []api.Cell) { c[31].Base++ }),
		"a base less":                 changed(func(c []api.Cell) { c[9].Base-- }),
		"another code":                changed(func(c []api.Cell) { c[0].Symbol = 5 }),
		"states turned round":         changed(func(c []api.Cell) { slices.Reverse(c) }),
	}
}

// P13.1, R1: tables ahead that are none are refused where they are asked for, and else not looked at.
func TestReadTablesThatAreNone(t *testing.T) {
	for values := range 3 {
		for what, cells := range noTables(t, values) {
			ahead := Tables{Lits: alone(0).cells, Back: alone(0).cells, Match: alone(0).cells}
			*[]*[]api.Cell{&ahead.Lits, &ahead.Back, &ahead.Match}[values] = cells
			for _, behind := range [][]byte{nil, {0}, {1}, {255}, {255, 255, 255, 255, 255, 255, 255, 255, 255}} {
				for _, n := range []byte{1, 2, 100} {
					refuses(t, what, slices.Concat([]byte{n, 0xfc}, behind), ahead, api.ErrMalformed)
					kinds := []byte{0xc0, 0x30, 0x0c}[values]
					refuses(t, what, slices.Concat([]byte{n, kinds}, behind), ahead, api.ErrMalformed)
				}
			}
			if a := reads(t, []byte{0}, ahead); !a.same(answer{next: ahead}) {
				t.Errorf("%s, no steps: %v", what, a)
			}
			if a := reads(t, []byte{2, 0x54, 1, 2, 0, 0x1b}, ahead); len(a.l) != 2 {
				t.Errorf("%s, not asked for: %d", what, int(a.e))
			}
		}
	}
}

// tableOf gives states these symbols, and cells as chapter 7 reckons them, of any log.
func tableOf(symbols []uint8) []api.Cell {
	cells := make([]api.Cell, len(symbols))
	var numbers [256]int
	for _, symbol := range symbols {
		numbers[symbol]++
	}
	for at, symbol := range symbols {
		x := numbers[symbol]
		numbers[symbol]++
		bits := log2(len(symbols)) - log2(x)
		cells[at] = api.Cell{Symbol: symbol, Bits: uint8(bits), Base: uint16(x<<bits - len(symbols))}
	}
	return cells
}

// P13.1: tables ahead by which steps could be told well, but of a log that neither a code alone nor a description has, or with
// a code above the most: they are none too.
func TestReadTablesOfOtherLogs(t *testing.T) {
	r := rand.New(rand.NewSource(1305))
	for values := range 3 {
		most := boundOf(values)
		for log := 0; log <= 12; log++ {
			for _, last := range []int{most.code, most.code + 1} {
				symbols := make([]uint8, 1<<log)
				for k := range symbols {
					symbols[k] = uint8(min(k%3, 1))
				}
				symbols[0] = uint8(last)
				ways := [3]way{alone(1), alone(2), alone(3)}
				ways[values] = again(tableOf(symbols))
				h := hand{ways: ways, points: make([][3]point, 1+r.Intn(20))}
				for k := range h.points {
					h.points[k] = [3]point{{code: 1}, {code: 2}, {code: 3}}
					h.points[k][values] = point{code: int(symbols[max(1, r.Intn(len(symbols)))%len(symbols)])}
				}
				ahead := h.next()
				switch {
				case last > most.code && log == 0:
					continue // no step could be told
				case last > most.code, log > most.log, log > 0 && log < 5:
					refuses(t, "another log or code", h.section(t), ahead, api.ErrMalformed)
				default:
					takes(t, "a log that is let in", h, ahead)
				}
			}
		}
	}
}

// P13.1: of several faults the one that stands first in the section is told.
func TestReadFirstFault(t *testing.T) {
	noMore, wrong := api.ErrTruncated, api.ErrMalformed
	for _, x := range []struct {
		what string
		b    []byte
		want api.Errno
	}{
		{"0 with a byte behind, which is no byte of kinds", []byte{0, 3}, wrong},
		{"low bits, then nothing", []byte{1, 0x55}, wrong},
		{"low bits, kind 3 without a table", []byte{1, 0xff}, wrong},
		{"literals without a byte, back without a table", []byte{1, 0x70}, noMore},
		{"literals without a table, back without a byte", []byte{1, 0xd0}, wrong},
		{"back without a byte, match without a table", []byte{1, 0x1c}, noMore},
		{"back without a table, match without a byte", []byte{1, 0x34}, wrong},
		{"a code too great, then nothing", []byte{1, 0x54, 36}, wrong},
		{"a second code too great, then nothing", []byte{1, 0x54, 35, 32}, wrong},
		{"two codes, then nothing", []byte{1, 0x54, 35, 31}, noMore},
		{"codes, the third too great, no tail", []byte{1, 0x54, 35, 31, 53}, wrong},
		{"a description that ends, then a kind 3 without a table", []byte{1, 0xb0, 0x00}, noMore},
		{"a kind 3 without a table, then a description that ends", []byte{1, 0xe0, 0x00}, wrong},
		{"a description with a log too great, then nothing", []byte{1, 0x80, 0x05}, wrong},
		{"a code, then a description that ends", []byte{1, 0x60, 35, 0x00}, noMore},
		{"a code too great, then a description that ends", []byte{1, 0x60, 36, 0x00}, wrong},
		{"no tail", []byte{1, 0}, wrong},
	} {
		refuses(t, x.what, x.b, Tables{}, x.want)
	}
}

// P13.1, R1: sections with some bits changed, cut, and bytes that come as they will, against the model.
func TestReadWhatever(t *testing.T) {
	r := rand.New(rand.NewSource(1303))
	taken := 0
	for range 40000 {
		ahead := Tables{}
		for values, cells := range []*[]api.Cell{&ahead.Lits, &ahead.Back, &ahead.Match} {
			if r.Intn(4) > 0 {
				*cells = someWay(t, r, values, r.Intn(3), nil).cells
			}
			if r.Intn(20) == 0 && len(*cells) > 0 {
				(*cells)[r.Intn(len(*cells))].Base ^= 1 << r.Intn(16)
			}
		}
		b := make([]byte, r.Intn(40))
		r.Read(b)
		if r.Intn(4) > 0 {
			var h hand
			for values, cells := range ahead.three() {
				kind := r.Intn(4)
				if !isTable(values, cells) {
					kind = r.Intn(3)
				}
				h.ways[values] = someWay(t, r, values, kind, cells)
			}
			h.points = somePoints(r, h.ways, 1+r.Intn(20))
			b = h.section(t)
			for range r.Intn(3) {
				b[r.Intn(len(b))] ^= 1 << r.Intn(8)
			}
		}
		if a := reads(t, b, ahead); a.e == api.OK && len(a.l) > 0 {
			taken++
		}
	}
	if taken < 8000 {
		t.Errorf("%d of them were taken", taken)
	}
}
