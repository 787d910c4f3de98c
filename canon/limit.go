package canon

import "baler/api"

// Limit gives lengths of at most most bits, by which the counts come to as few bits as can be (P5.2).
func Limit(counts []uint32, most int) ([]uint8, api.Errno) {
	if len(counts) > mostSymbols || most < 1 || most > api.MaxLength {
		return nil, api.ErrArg
	}
	rising := order(counts)
	if len(rising) < 2 || len(rising) > 1<<most {
		return nil, api.ErrArg
	}
	leaves := make([]item, len(rising))
	for i, place := range rising {
		leaves[i] = item{weight: uint64(counts[place]), leaf: true}
	}
	lengths := make([]uint8, len(counts))
	for _, taken := range longer(leaves, most) {
		for _, place := range rising[:taken] {
			lengths[place]++
		}
	}
	return lengths, api.OK
}

// item is a count (a leaf), or two items of the level below as one. Where a leaf is taken on a level, its word gets one bit longer.
type item struct {
	weight uint64 // what all counts within it come to: below 2^47, as each has at most 2^32 on each of 15 levels
	leaf   bool
}

// longer tells for each of most levels how many of the leaves are taken there: the lightest ones. The leaves rise, and there are at most 2^most.
//
// This is packing and merging: a level has all leaves, and the items of the level below two by two; a code of n words takes the 2n - 2 lightest items of the uppermost level, and where a pair is taken, so are its two items below. No other choice that fills a code weighs less.
func longer(leaves []item, most int) []int {
	levels := make([][]item, most)
	var below []item
	for k := range levels {
		below = merge(leaves, pairs(below))
		levels[k] = below
	}
	taken := make([]int, most)
	items := 2*len(leaves) - 2
	for k := most - 1; k >= 0; k-- {
		taken[k] = leavesIn(levels[k][:items])
		items = 2 * (items - taken[k])
	}
	return taken
}

// pairs makes one item of each two; an odd last one, the heaviest, is left out.
func pairs(items []item) []item {
	out := make([]item, len(items)/2)
	for i := range out {
		out[i].weight = items[2*i].weight + items[2*i+1].weight
	}
	return out
}

// merge makes one rising row of two.
func merge(a, b []item) []item {
	out := make([]item, 0, len(a)+len(b))
	for len(a) > 0 && len(b) > 0 {
		if a[0].weight <= b[0].weight {
			out, a = append(out, a[0]), a[1:]
		} else {
			out, b = append(out, b[0]), b[1:]
		}
	}
	return append(append(out, a...), b...)
}

func leavesIn(items []item) int {
	n := 0
	for _, x := range items {
		if x.leaf {
			n++
		}
	}
	return n
}
