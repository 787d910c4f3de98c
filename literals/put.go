package literals

import (
	"slices"

	"baler/api"
	"baler/canon"
	"baler/weights"
)

// mostWord is how many bits the longest word of weights may have.
const mostWord = 11

// shortest gives the shortest section of all ways to tell the literals, and the weights that hold behind it.
func shortest(lits []byte, ahead []uint8) (b []byte, next []uint8) {
	b, next = section(raw, len(lits), lits), slices.Clone(ahead)
	offer := func(kind int, body []byte, own []uint8) {
		if s := section(kind, len(lits), body); len(s) < len(b) {
			b, next = s, slices.Clone(own)
		}
	}
	if allAlike(lits) {
		offer(oneByte, lits[:1], ahead)
		return b, next
	}
	if body, ok := pack(lits, ahead); ok {
		offer(packedAhead, body, ahead)
	}
	if body, own, ok := packAnew(lits); ok {
		offer(packed, body, own)
	}
	return b, next
}

// section gives a section of so many literals, told by these bytes behind its head.
func section(kind, size int, body []byte) []byte {
	return slices.Concat(putHead(kind, size, len(body)), body)
}

// allAlike tells if there are literals, all of them the same byte.
func allAlike(lits []byte) bool {
	return len(lits) > 0 && !slices.ContainsFunc(lits, func(x byte) bool { return x != lits[0] })
}

// packAnew gives what stands behind the head if the literals are packed by weights of their own, and these weights.
func packAnew(lits []byte) (body []byte, own []uint8, ok bool) {
	own, ok = weightsOf(lits)
	if !ok {
		return nil, nil, false
	}
	description, e := weights.Write(own)
	rows, ok := pack(lits, own)
	body = append(description, rows...)
	return body, own, ok && e == api.OK && len(body) < len(lits)
}

// weightsOf gives the weights of the code by which the literals take the fewest bits; there is none, if they are all alike.
func weightsOf(lits []byte) ([]uint8, bool) {
	var counts [256]uint32
	for _, x := range lits {
		counts[x]++
	}
	lengths, e := canon.Limit(counts[:], mostWord)
	if e != api.OK {
		return nil, false
	}
	longest := slices.Max(lengths)
	end := 0
	own := make([]uint8, len(lengths))
	for symbol, length := range lengths {
		if length > 0 {
			own[symbol] = longest + 1 - length
			end = symbol + 1
		}
	}
	return own[:end], true
}

// pack gives the rows of the literals, as many as the form for them has. Not ok, if the weights make no code or have no word
// for a literal, or if the rows have no fewer bytes than there are literals: then these are as well told raw.
func pack(lits []byte, by []uint8) ([]byte, bool) {
	_, f := formFor(packed, len(lits))
	each := shareOf(len(lits), f.rows)
	var lengths, tails []byte
	for k := range f.rows {
		from, to := each*k, min(each*(k+1), len(lits))
		t, e := weights.Pack(by, lits[from:to:to])
		if e != api.OK {
			return nil, false
		}
		if k < f.rows-1 {
			lengths = append(lengths, byte(len(t)), byte(len(t)>>8))
		}
		tails = append(tails, t...)
	}
	b := append(lengths, tails...)
	return b, len(b) < len(lits)
}
