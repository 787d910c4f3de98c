package finder

import (
	"math/bits"

	"baler/api"
)

// depths tells, by level, how many places of a chain are tried.
var depths = [...]int{0, 8, 24, 64}

// enough is the length of a match from which on no longer one is looked for behind it.
const enough = 64

// Each patience bytes at which nothing was found halve the number of places that are tried; each byte of a match makes up for amends of them.
const (
	patience = 256
	amends   = 16
)

// match is so many bytes at a place that stand back bytes ahead; of size 0 it is none.
type match struct {
	at, size, back int
}

// search goes through a text, place by place.
type search struct {
	b                          []byte
	depth, window, least, most int
	at                         int // the present place
	told                       int // up to where the steps tell the text
	vain                       int // how many bytes were searched in vain of late
	near                       chains
	far                        marks
}

func newSearch(b []byte, level, window, least, most int) *search {
	return &search{
		b: b, depth: depths[level], window: window, least: least, most: most,
		near: newChains(b, window, least), far: newMarks(b, least),
	}
}

// steps tells the steps behind the first from bytes.
func (s *search) steps(from int) []api.Seq {
	var l []api.Seq
	s.skip(from)
	s.told = from
	for s.at < len(s.b) {
		m := s.next()
		if m.size == 0 {
			s.vain++
			s.skip(s.at + 1)
			continue
		}
		m = s.widen(m, max(s.told, m.at+m.size-s.most))
		l = append(l, api.Seq{Lits: m.at - s.told, Match: m.size, Back: m.back})
		s.vain = max(0, s.vain-amends*m.size)
		s.told = m.at + m.size
		s.skip(s.told)
	}
	if s.told < len(s.b) {
		l = append(l, api.Seq{Lits: len(s.b) - s.told})
	}
	return l
}

// skip goes on to a place; those that are left behind can be found from then on.
func (s *search) skip(to int) {
	for ; s.at < to; s.at++ {
		s.near.step()
		s.far.step()
	}
}

// next tells the match at the present place, or a later one, as long as each place has a longer one than that ahead of it.
func (s *search) next() match {
	now := s.here()
	later := func() bool {
		s.skip(s.at + 1)
		m := s.here()
		if m.size <= now.size {
			return false
		}
		now = m
		return true
	}
	for now.size > 0 && now.size < enough && later() {
	}
	return s.within(now)
}

// within looks at the marks within a match: if one of them tells of a longer match that can begin there too, it is taken instead. Else the places within short matches would not be searched, and a long one could be passed by.
func (s *search) within(now match) match {
	for now.size < enough && s.at+1 < now.at+now.size {
		s.skip(s.at + 1)
		if m := s.widen(s.marked(), now.at); m.size > now.size && m.at == now.at {
			now = m
		}
	}
	return now
}

// here tells the longest match at the present place among those that are tried; of several in a chain the nearest one.
func (s *search) here() match {
	best := s.marked()
	size := max(best.size, s.least-1)
	limit := s.limit()
	place := s.near.head()
search:
	for range s.tries() {
		switch {
		case !s.reaches(place), size == limit:
			break search
		}
		if m := s.with(place, size); m.size > 0 {
			best, size = m, m.size
		}
		place = s.near.ahead(place)
	}
	return best
}

// marked tells the match that the mark at the present place tells of.
func (s *search) marked() match {
	if place := s.far.place(); s.reaches(place) {
		return s.with(place, s.least-1)
	}
	return match{}
}

// limit tells how long a match at the present place may be.
func (s *search) limit() int { return min(s.most, len(s.b)-s.at) }

// reaches tells whether there is a place, and it is within the window.
func (s *search) reaches(place int) bool {
	return place >= 0 && s.at-place <= s.window
}

// tries tells how many places of a chain are tried. Noise has chains as long as any, in which there is nothing to be found.
func (s *search) tries() int {
	return max(1, s.depth>>min(s.vain/patience, 8))
}

// with tells the match with a place, if it is longer than size, which is below the limit, and worth its telling.
func (s *search) with(place, size int) match {
	if s.b[place+size] != s.b[s.at+size] {
		return match{}
	}
	limit := s.limit()
	n := alike(s.b[place:place+limit], s.b[s.at:s.at+limit])
	if n <= size || dear(n, s.at-place) {
		return match{}
	}
	return match{s.at, n, s.at - place}
}

// alike tells how many bytes two texts of one length have in common at their beginnings.
func alike(a, b []byte) int {
	for i, c := range a {
		if b[i] != c {
			return i
		}
	}
	return len(a)
}

// dear tells whether a match is likely to take more bits than its bytes would: the farther back, the more it takes.
func dear(size, back int) bool {
	return bits.Len(uint(back)) > 6*size-4
}

// widen lets a match begin earlier, down to a place, as far as the bytes there are like ones too: a mark is seldom where the like bytes begin. What would be too much of it is cut off at its end.
func (s *search) widen(m match, down int) match {
	for m.at > down && m.at > m.back && s.b[m.at-1] == s.b[m.at-1-m.back] {
		m.at--
		m.size = min(m.size+1, s.most)
	}
	return m
}
