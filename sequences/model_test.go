package sequences

import (
	"math/rand"
	"slices"
	"strings"
	"testing"

	"baler/api"
	"baler/states"
	"baler/tail"
)

// What stands here tells the chapter's words once more, in a plain and slow way, by rows of signs: the program is held against
// it. It lays sections by hand, and it reads them.

// span is what a code tells: values from the least on, by so many extra bits.
type span struct{ least, bits int }

// spansOf is the chapter's first table, number by number.
func spansOf(values int) (spans []span) {
	var least, bits []int
	switch values {
	case ofLits:
		for code := range 16 {
			spans = append(spans, span{code, 0})
		}
		least = []int{16, 18, 20, 22, 24, 28, 32, 40, 48, 64, 128, 256, 512, 1024, 2048, 4096, 8192, 16384, 32768, 65536}
		bits = []int{1, 1, 1, 1, 2, 2, 3, 3, 4, 6, 7, 8, 9, 10, 11, 12, 13, 14, 15, 16}
	case ofMatch:
		for code := range 32 {
			spans = append(spans, span{code + 3, 0})
		}
		least = []int{35, 37, 39, 41, 43, 47, 51, 59, 67, 83, 99, 131, 259, 515, 1027, 2051, 4099, 8195, 16387, 32771, 65539}
		bits = []int{1, 1, 1, 1, 2, 2, 3, 3, 4, 4, 5, 7, 8, 9, 10, 11, 12, 13, 14, 15, 16}
	case ofBack:
		value := 1
		for code := range 32 {
			spans = append(spans, span{value, code})
			value *= 2
		}
	}
	for k := range least {
		spans = append(spans, span{least[k], bits[k]})
	}
	return spans
}

// bound is the most log and code of a table.
type bound struct{ log, code int }

// boundOf and untoldOf are the chapter's second table.
func boundOf(values int) bound {
	return [...]bound{ofLits: {9, 35}, ofBack: {8, 31}, ofMatch: {9, 52}}[values]
}

func untoldOf(values int) (counts []int16, log int) {
	switch values {
	case ofLits:
		return []int16{4, 3, 2, 2, 2, 2, 2, 2, 2, 2, 2, 2, 2, 1, 1, 1, 2, 2, 2, 2, 2, 2, 2, 2, 2, 3, 2, 1, 1, 1, 1, 1, -1, -1, -1, -1}, 6
	case ofBack:
		return []int16{1, 1, 1, 1, 1, 1, 2, 2, 2, 1, 1, 1, 1, 1, 1, 1, 1, 1, 1, 1, 1, 1, 1, 1, -1, -1, -1, -1, -1}, 5
	}
	return slices.Concat([]int16{1, 4, 3, 2, 2, 2, 2, 2, 2}, slices.Repeat([]int16{1}, 37), slices.Repeat([]int16{-1}, 7)), 6
}

// cellsOf gives the cells of counts that make a table.
func cellsOf(t *testing.T, counts []int16, log int) []api.Cell {
	t.Helper()
	cells, e := states.Table(counts, log)
	if e != api.OK {
		t.Fatalf("Table(%v, %d): %d", counts, log, int(e))
	}
	return cells
}

// way is how a section tells a table: its kind, what stands there, and the table.
type way struct {
	kind  int
	bytes []byte
	cells []api.Cell
}

func untold(t *testing.T, values int) way {
	t.Helper()
	counts, log := untoldOf(values)
	return way{cells: cellsOf(t, counts, log)}
}

func alone(code int) way {
	return way{kind: 1, bytes: []byte{byte(code)}, cells: []api.Cell{{Symbol: uint8(code), Bits: 0, Base: 0}}}
}

func described(t *testing.T, counts []int16, log int) way {
	t.Helper()
	b, e := states.Write(counts, log)
	if e != api.OK {
		t.Fatalf("Write(%v, %d): %d", counts, log, int(e))
	}
	return way{kind: 2, bytes: b, cells: cellsOf(t, counts, log)}
}

func again(cells []api.Cell) way {
	return way{kind: 3, cells: cells}
}

// point is a code and the number in its extra bits.
type point struct{ code, extra int }

// hand is a section that is laid by hand: how its tables are told, and what the steps are, by kinds of values.
type hand struct {
	ways   [3]way
	points [][3]point
}

// steps gives what the section tells.
func (h hand) steps() (l []api.Seq) {
	for _, p := range h.points {
		var told [3]int
		for values := range 3 {
			told[values] = spansOfAll[values][p[values].code].least + p[values].extra
		}
		l = append(l, api.Seq{Lits: told[ofLits], Match: told[ofMatch], Back: told[ofBack]})
	}
	return l
}

// next gives the tables that hold behind the section.
func (h hand) next() Tables {
	return Tables{Lits: h.ways[ofLits].cells, Back: h.ways[ofBack].cells, Match: h.ways[ofMatch].cells}
}

// path gives the states of a row of codes; of the last one the greatest state there is.
func path(t *testing.T, cells []api.Cell, codes []int) []int {
	t.Helper()
	all := make([]int, len(codes))
	for k := len(codes) - 1; k >= 0; k-- {
		ok := false
		if k == len(codes)-1 {
			for state, cell := range cells {
				if int(cell.Symbol) == codes[k] {
					all[k], ok = state, true
				}
			}
		} else {
			all[k], ok = states.Ahead(cells, uint8(codes[k]), all[k+1])
		}
		if !ok {
			t.Fatalf("code %d has no state", codes[k])
		}
	}
	return all
}

// log2 tells of which power of 2 there are so many.
func log2(n int) (log int) {
	for ; n > 1; n /= 2 {
		log++
	}
	return log
}

// tail gives the tail of the section, from the last step to the first.
func (h hand) tail(t *testing.T) []byte {
	t.Helper()
	var paths [3][]int
	for values := range 3 {
		var codes []int
		for _, p := range h.points {
			codes = append(codes, p[values].code)
		}
		paths[values] = path(t, h.ways[values].cells, codes)
	}
	w := &tail.Writer{}
	for k := len(h.points) - 1; k >= 0; k-- {
		if k < len(h.points)-1 {
			for _, values := range []int{ofBack, ofMatch, ofLits} {
				cell := h.ways[values].cells[paths[values][k]]
				w.Put(uint64(paths[values][k+1]-int(cell.Base)), int(cell.Bits))
			}
		}
		for _, values := range []int{ofLits, ofMatch, ofBack} {
			p := h.points[k][values]
			w.Put(uint64(p.extra), spansOfAll[values][p.code].bits)
		}
	}
	for _, values := range []int{ofMatch, ofBack, ofLits} {
		w.Put(uint64(paths[values][0]), log2(len(h.ways[values].cells)))
	}
	return w.Close()
}

// numberOf tells how many steps there are, in so many bytes.
func numberOf(t *testing.T, n, size int) []byte {
	t.Helper()
	switch {
	case size == 1 && n < 128:
		return []byte{byte(n)}
	case size == 2 && n < 32512:
		return []byte{byte(128 + n/256), byte(n % 256)}
	case size == 3 && n >= 32512 && n-32512 < 65536:
		return []byte{255, byte((n - 32512) % 256), byte((n - 32512) / 256)}
	}
	t.Fatalf("%d is not told in %d bytes", n, size)
	return nil
}

// bytesFor tells in how few bytes a number of steps is told.
func bytesFor(n int) int {
	switch {
	case n < 128:
		return 1
	case n < 32512:
		return 2
	}
	return 3
}

// head gives all of the section that stands ahead of its tail.
func (h hand) head(t *testing.T) []byte {
	t.Helper()
	b := numberOf(t, len(h.points), bytesFor(len(h.points)))
	b = append(b, byte(h.ways[ofLits].kind*64+h.ways[ofBack].kind*16+h.ways[ofMatch].kind*4))
	return slices.Concat(b, h.ways[ofLits].bytes, h.ways[ofBack].bytes, h.ways[ofMatch].bytes)
}

func (h hand) section(t *testing.T) []byte {
	t.Helper()
	return append(h.head(t), h.tail(t)...)
}

// signsOfTail gives the bits of a tail as signs, the first one first; not ok, if there is no mark.
func signsOfTail(b []byte) (signs string, ok bool) {
	if len(b) == 0 || b[len(b)-1] == 0 {
		return "", false
	}
	var s strings.Builder
	for _, x := range b {
		for range 8 {
			s.WriteByte('0' + x%2)
			x /= 2
		}
	}
	signs = s.String()
	return signs[:strings.LastIndexByte(signs, '1')], true
}

// tailOfSigns gives the bytes of a tail.
func tailOfSigns(signs string) (b []byte) {
	for signs += "1"; len(signs)%8 != 0; {
		signs += "0"
	}
	for ; signs != ""; signs = signs[8:] {
		x := 0
		for k := 7; k >= 0; k-- {
			x = 2*x + int(signs[k]-'0')
		}
		b = append(b, byte(x))
	}
	return b
}

// answer is what Read tells.
type answer struct {
	l    []api.Seq
	next Tables
	e    api.Errno
}

func sameTables(a, b Tables) bool {
	return slices.Equal(a.Lits, b.Lits) && slices.Equal(a.Back, b.Back) && slices.Equal(a.Match, b.Match)
}

func (a answer) same(b answer) bool {
	return a.e == b.e && slices.Equal(a.l, b.l) && sameTables(a.next, b.next)
}

// isTable tells if cells are a table of one code alone, or one that counts make, but for which state has which symbol.
func isTable(values int, cells []api.Cell) bool {
	most := boundOf(values)
	size := len(cells)
	log := log2(size)
	if size == 0 || size != 1<<log || log > most.log || log != 0 && log < 5 {
		return false
	}
	for at, cell := range cells {
		if int(cell.Symbol) > most.code {
			return false
		}
		x := 0
		for other := range cells {
			if cells[other].Symbol != cell.Symbol {
				continue
			}
			x++
			if other < at {
				x++
			}
		}
		bits := log - log2(x)
		if int(cell.Bits) != bits || int(cell.Base) != x<<bits-size {
			return false
		}
	}
	return true
}

// readModel reads a section, one condition behind the other, as P13.1 names them.
func readModel(b []byte, ahead Tables) answer {
	if len(b) > 131072 {
		return answer{e: api.ErrLong}
	}
	return readLongModel(b, ahead)
}

// readLongModel reads a section of any length.
func readLongModel(b []byte, ahead Tables) answer {
	truncated, malformed := answer{e: api.ErrTruncated}, answer{e: api.ErrMalformed}
	if len(b) < 1 {
		return truncated
	}
	n, head := int(b[0]), 1
	if b[0] >= 128 && b[0] < 255 {
		if len(b) < 2 {
			return truncated
		}
		n, head = (int(b[0])-128)*256+int(b[1]), 2
	}
	if b[0] == 255 {
		if len(b) < 3 {
			return truncated
		}
		n, head = int(b[1])+int(b[2])*256+32512, 3
	}
	b = b[head:]
	if n == 0 && len(b) > 0 {
		return malformed
	}
	if n == 0 {
		return answer{next: ahead}
	}
	if len(b) < 1 {
		return truncated
	}
	kinds := int(b[0])
	b = b[1:]
	if kinds%4 != 0 {
		return malformed
	}
	var tables [3][]api.Cell
	for values, kind := range []int{kinds / 64, kinds / 16 % 4, kinds / 4 % 4} {
		cells, used, e := tableModel(b, values, kind, [3][]api.Cell{ofLits: ahead.Lits, ofBack: ahead.Back, ofMatch: ahead.Match}[values])
		if e != api.OK {
			return answer{e: e}
		}
		tables[values], b = cells, b[used:]
	}
	l, ok := stepsModel(b, n, tables)
	if !ok {
		return malformed
	}
	return answer{l: l, next: Tables{Lits: tables[ofLits], Back: tables[ofBack], Match: tables[ofMatch]}}
}

// tableModel reads one of the tables.
func tableModel(b []byte, values, kind int, ahead []api.Cell) (cells []api.Cell, used int, e api.Errno) {
	most := boundOf(values)
	switch kind {
	case 0:
		counts, log := untoldOf(values)
		cells, e = states.Table(counts, log)
		return cells, 0, e
	case 1:
		if len(b) < 1 {
			return nil, 0, api.ErrTruncated
		}
		if int(b[0]) > most.code {
			return nil, 0, api.ErrMalformed
		}
		return []api.Cell{{Symbol: b[0]}}, 1, api.OK
	case 2:
		counts, log, used, e := states.Read(b, most.log, most.code)
		if e == api.ErrTruncated {
			return nil, 0, e
		}
		if e != api.OK {
			return nil, 0, api.ErrMalformed
		}
		cells, e = states.Table(counts, log)
		return cells, used, e
	}
	if !isTable(values, ahead) {
		return nil, 0, api.ErrMalformed
	}
	return ahead, 0, api.OK
}

// stepsModel reads the tail, sign by sign; it asks for no sign that is not there.
func stepsModel(b []byte, n int, tables [3][]api.Cell) (l []api.Seq, ok bool) {
	signs, ok := signsOfTail(b)
	if !ok {
		return nil, false
	}
	enough := true
	number := func(bits int) (x int) {
		if bits > len(signs) {
			enough = false
			return 0
		}
		for range bits {
			x = 2*x + int(signs[len(signs)-1]-'0')
			signs = signs[:len(signs)-1]
		}
		return x
	}
	var at, told [3]int
	for _, values := range []int{ofLits, ofBack, ofMatch} {
		at[values] = number(log2(len(tables[values])))
	}
	for k := range n {
		for _, values := range []int{ofBack, ofMatch, ofLits} {
			s := spansOfAll[values][tables[values][at[values]].Symbol]
			told[values] = s.least + number(s.bits)
		}
		for _, values := range []int{ofLits, ofMatch, ofBack} {
			if k < n-1 {
				cell := tables[values][at[values]]
				at[values] = int(cell.Base) + number(int(cell.Bits))
			}
		}
		if !enough {
			return nil, false
		}
		l = append(l, api.Seq{Lits: told[ofLits], Match: told[ofMatch], Back: told[ofBack]})
	}
	return l, signs == ""
}

// spansOfAll spares the model to make its tables for each step.
var spansOfAll = [3][]span{spansOf(ofLits), spansOf(ofBack), spansOf(ofMatch)}

// reads asks for a reading, holds it against the model, and looks if what was handed in, with the room behind its ends, stays as it is.
func reads(t *testing.T, b []byte, ahead Tables) answer {
	t.Helper()
	roomB := slices.Concat(b, []byte{77, 78})
	stuff := []api.Cell{{Symbol: 7, Bits: 7, Base: 7}, {Symbol: 8, Bits: 8, Base: 8}}
	rooms := [3][]api.Cell{slices.Concat(ahead.Lits, stuff), slices.Concat(ahead.Back, stuff), slices.Concat(ahead.Match, stuff)}
	var a answer
	a.l, a.next, a.e = Read(roomB[:len(b)], Tables{Lits: rooms[0][:len(ahead.Lits)], Back: rooms[1][:len(ahead.Back)], Match: rooms[2][:len(ahead.Match)]})
	if !slices.Equal(roomB, slices.Concat(b, []byte{77, 78})) {
		t.Fatal("Read has changed its bytes")
	}
	for k, cells := range [][]api.Cell{ahead.Lits, ahead.Back, ahead.Match} {
		if !slices.Equal(rooms[k], slices.Concat(cells, stuff)) {
			t.Fatal("Read has changed a table ahead")
		}
	}
	if a.e != api.OK && (len(a.l) != 0 || !sameTables(a.next, Tables{})) {
		t.Fatalf("Read tells %d steps or tables beside error %d", len(a.l), int(a.e))
	}
	if m := readModel(b, ahead); !a.same(m) {
		t.Fatalf("Read(% x): %d steps, error %d; the model: %d steps, error %d; tables alike: %v", b[:min(len(b), 60)], len(a.l), int(a.e), len(m.l), int(m.e), sameTables(a.next, m.next))
	}
	return a
}

// takes looks if a section that was laid by hand is read as it was laid.
func takes(t *testing.T, what string, h hand, ahead Tables) Tables {
	t.Helper()
	a := reads(t, h.section(t), ahead)
	if !a.same(answer{l: h.steps(), next: h.next()}) {
		t.Fatalf("%s: %d steps (of %d), error %d", what, len(a.l), len(h.points), int(a.e))
	}
	return a.next
}

func refuses(t *testing.T, what string, b []byte, ahead Tables, want api.Errno) {
	t.Helper()
	if a := reads(t, b, ahead); a.e != want {
		t.Errorf("%s: Read(% x): error %d, want %d", what, b[:min(len(b), 60)], int(a.e), int(want))
	}
}

// codesIn gives the codes that a table has, each once.
func codesIn(cells []api.Cell) (codes []int) {
	for _, cell := range cells {
		codes = append(codes, int(cell.Symbol))
	}
	slices.Sort(codes)
	return slices.Compact(codes)
}

// somePoints makes n steps of the codes that the tables have, with any extra bits.
func somePoints(r *rand.Rand, ways [3]way, n int) (points [][3]point) {
	for range n {
		var p [3]point
		for values, w := range ways {
			code := int(w.cells[r.Intn(len(w.cells))].Symbol)
			p[values] = point{code: code, extra: r.Intn(1 << spansOfAll[values][code].bits)}
		}
		points = append(points, p)
	}
	return points
}

// someCounts makes counts of at most so many symbols that make a table.
func someCounts(r *rand.Rand, log, most int) (counts []int16) {
	rest := 1 << log
	for rest > 0 && len(counts) < most-1 {
		c := 0
		switch r.Intn(4) {
		case 0:
			counts = append(counts, -1)
			rest--
			continue
		case 1:
			c = 0
		case 2:
			c = 1
		default:
			c = 1 + r.Intn(1+rest/4)
		}
		counts = append(counts, int16(c))
		rest -= c
	}
	if rest > 0 {
		counts = append(counts, int16(rest))
	}
	return counts
}

// someWay makes a way of a kind, of 3 by the table ahead.
func someWay(t *testing.T, r *rand.Rand, values, kind int, ahead []api.Cell) way {
	t.Helper()
	most := boundOf(values)
	switch kind {
	case 0:
		return untold(t, values)
	case 1:
		return alone(r.Intn(most.code + 1))
	case 2:
		log := 5 + r.Intn(most.log-4)
		return described(t, someCounts(r, log, 1+r.Intn(most.code+1)), log)
	}
	return again(ahead)
}
