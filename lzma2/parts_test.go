package lzma2

import (
	"bytes"
	"math/rand"
	"slices"
	"testing"

	"baler/api"
	"baler/finder"
)

// partsOf gives all parts, and looks that a chunk may be made of each, and that together they make the text from from on.
func partsOf(t *testing.T, b []byte, l []api.Seq, from, lead int) []part {
	t.Helper()
	var all []part
	at := from
	for p := range parts(l, from, lead) {
		if p.from != at || p.size() < 1 || p.size() > 1<<16 {
			t.Fatalf("a part from %d to %d behind %d", p.from, p.end, at)
		}
		missed := 0
		for _, s := range p.steps {
			if s.Match == 1 || s.Match > 273 || (s.Match == 0) != (s.Back == 0) {
				t.Fatalf("a step %v", s)
			}
			at += s.Lits
			if s.Back > max(p.from+lead, 1) {
				missed += s.Match
			}
			if s.Match > 0 && !bytes.Equal(b[at:at+s.Match], b[at-s.Back:at-s.Back+s.Match]) {
				t.Fatalf("%v at %d is no copy", s, at)
			}
			at += s.Match
		}
		if at != p.end {
			t.Fatalf("the steps end at %d, not at %d", at, p.end)
		}
		if missed > dear {
			t.Fatalf("the part from %d to %d misses copies of %d bytes", p.from, p.end, missed)
		}
		all = append(all, p)
	}
	if at != len(b) {
		t.Fatalf("the parts end at %d of %d", at, len(b))
	}
	return all
}

// P16.2: steps of texts of all kinds are cut so that each part can be a chunk.
func TestParts(t *testing.T) {
	t.Parallel()
	r := rand.New(rand.NewSource(40))
	for _, n := range []int{0, 1, 300, 65536, 200000} {
		for _, b := range texts(r, n) {
			for _, from := range []int{0, n / 1000, n / 2, n} {
				for _, most := range []int{273, 1 << 16} {
					l := finder.Parse(b, from, 2, 1<<20, 2, most)
					partsOf(t, b, l, from, 0)
					partsOf(t, b, l, from, 1<<16)
				}
			}
		}
	}
}

// P16.2: where a part ends: behind 2^16 bytes, also within literals and within a copy, and ahead of a copy that would be missed.
func TestWhereAPartEnds(t *testing.T) {
	a := func(n int) []byte { return bytes.Repeat([]byte("a"), n) }
	same := bytes.Repeat([]byte("abcdefgh"), 30000)
	for what, x := range map[string]struct {
		b    []byte
		l    []api.Seq
		from int
		lead int
		ends []int
	}{
		"nothing":                    {nil, nil, 0, 0, nil},
		"nothing behind":             {a(5), nil, 5, 0, nil},
		"literals":                   {a(100), []api.Seq{step(100, 0, 0)}, 0, 0, []int{100}},
		"just 2^16 literals":         {a(1 << 16), []api.Seq{step(1<<16, 0, 0)}, 0, 0, []int{1 << 16}},
		"one more":                   {a(1<<16 + 1), []api.Seq{step(1<<16+1, 0, 0)}, 0, 0, []int{1 << 16, 1<<16 + 1}},
		"from 7 on":                  {a(1<<16 + 8), []api.Seq{step(1<<16+1, 0, 0)}, 7, 0, []int{1<<16 + 7, 1<<16 + 8}},
		"a copy over the end":        {a(1<<16 + 9), []api.Seq{step(1<<16-1, 10, 1)}, 0, 0, []int{1 << 16, 1<<16 + 9}},
		"a long copy":                {a(3 << 16), []api.Seq{step(1, 3<<16-1, 1)}, 0, 0, []int{1 << 16, 2 << 16, 3 << 16}},
		"a copy from one byte back":  {a(50), []api.Seq{step(1, 49, 1)}, 0, 0, []int{50}},
		"a copy from further back":   {same[:50], []api.Seq{step(8, 42, 8)}, 0, 0, []int{8, 50}},
		"what is ahead, just enough": {same[:50], []api.Seq{step(8, 34, 8)}, 8, 0, []int{50}},
		"what is ahead, one less":    {same[:50], []api.Seq{step(8, 35, 8)}, 7, 0, []int{15, 50}},
		"what is laid ahead":         {same[:50], []api.Seq{step(8, 42, 8)}, 0, 8, []int{50}},
		"one byte less laid ahead":   {same[:50], []api.Seq{step(8, 42, 8)}, 0, 7, []int{8, 50}},
		"short copies":               {same[:40], []api.Seq{step(8, 8, 8), step(8, 8, 8), step(8, 0, 0)}, 0, 0, []int{40}},
		"one more short copy":        {same[:48], []api.Seq{step(8, 8, 8), step(8, 8, 8), step(8, 8, 8)}, 0, 0, []int{40, 48}},
		"each part by itself":        {same[:58], []api.Seq{step(8, 42, 8), step(0, 8, 16)}, 0, 0, []int{8, 58}},
	} {
		var ends []int
		for _, p := range partsOf(t, x.b, x.l, x.from, x.lead) {
			ends = append(ends, p.end)
		}
		if !slices.Equal(ends, x.ends) {
			t.Errorf("%s: parts end at %v, not at %v", what, ends, x.ends)
		}
	}
}

// Whoever goes over parts, or over chunks, may leave them anywhere, and go over them again.
func TestLeft(t *testing.T) {
	r := rand.New(rand.NewSource(41))
	b := texts(r, 300000)["both in turn"]
	all := parts(finder.Parse(b, 0, 2, 1<<20, 4, 1<<16), 0, 0)
	stream := chunks(newPen(t).some(r, 30, 100).end())
	for range 2 {
		for n := range 10 {
			left := n
			for range all {
				if left--; left < 0 {
					break
				}
			}
			left = n
			for range stream {
				if left--; left < 0 {
					break
				}
			}
		}
	}
	count := 0
	for range stream {
		count++
	}
	if count != 31 {
		t.Errorf("%d chunks", count)
	}
}
