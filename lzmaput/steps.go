package lzmaput

import (
	"bytes"

	"baler/api"
)

// The bounds of a copy's length.
const (
	shortest = 2
	longest  = 273
)

// made tells if the steps make the text from from on, with matches of lengths that a copy may have.
func made(text []byte, from int, l []api.Seq) bool {
	at := from
	for _, s := range l {
		// Held against what is left rather than added up: a sum may wrap round.
		if s.Lits < 0 || s.Match < 0 || s.Back < 0 || s.Lits > len(text)-at {
			return false
		}
		at += s.Lits
		if s.Match > 0 && !(s.Match >= shortest && s.Match <= longest && stands(text, at, s.Match, s.Back)) {
			return false
		}
		at += s.Match
	}
	return at == len(text)
}

// stands tells if the text has so many bytes at this place that stand, too, so far back. They may overlap: then the bytes go on with
// themselves, just as a copy does.
func stands(text []byte, at, length, back int) bool {
	if length > len(text)-at || back < 1 || back > at {
		return false
	}
	return bytes.Equal(text[at:at+length], text[at-back:at-back+length])
}
