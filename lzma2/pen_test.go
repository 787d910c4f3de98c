package lzma2

import (
	"encoding/hex"
	"math/rand"
	"slices"
	"testing"

	"baler/api"
	"baler/finder"
	"baler/lzmaput"
)

// What stands here lays chunks by hand, as the chapter's table has them.

// sizes is two bytes that tell n less 1.
func sizes(n int) []byte {
	return []byte{byte((n - 1) / 256), byte((n - 1) % 256)}
}

// plainChunk is bytes as they are.
func plainChunk(control byte, text string) []byte {
	return slices.Concat([]byte{control}, sizes(len(text)), []byte(text))
}

// packedHeadOf is the head of an LZMA chunk with or without settings, as its control has it.
func packedHeadOf(control, props byte, tells, has int) []byte {
	n := tells - 1
	b := []byte{control + byte(n/65536), byte(n / 256 % 256), byte(n % 256), byte((has - 1) / 256), byte((has - 1) % 256)}
	if control >= 0xc0 {
		b = append(b, props)
	}
	return b
}

// pen lays chunks one behind the other, and keeps what they tell.
type pen struct {
	t          *testing.T
	b          []byte // the chunks
	out        []byte
	from       int // where in out the dictionary begins
	lc, lp, pb int // of the next settings
	s          *lzmaput.State
}

func newPen(t *testing.T) *pen {
	return &pen{t: t, lc: 3, pb: 2}
}

// settings are those that the next chunk with settings tells.
func (p *pen) settings(lc, lp, pb int) *pen {
	p.lc, p.lp, p.pb = lc, lp, pb
	return p
}

// plain lays a chunk of bytes as they are.
func (p *pen) plain(control byte, text string) *pen {
	if control == 1 {
		p.from = len(p.out)
	}
	p.b = append(p.b, plainChunk(control, text)...)
	p.out = append(p.out, text...)
	return p
}

// ready is what a control asks of the state.
func (p *pen) ready(control byte) {
	p.t.Helper()
	if control >= 0xe0 {
		p.from = len(p.out)
	}
	if control >= 0xc0 {
		var e api.Errno
		if p.s, e = lzmaput.New(p.lc, p.lp, p.pb); e != api.OK {
			p.t.Fatal(int(e))
		}
	} else if control >= 0xa0 {
		p.s.Reset()
	}
}

// steps lays an LZMA chunk of these steps, of which these are the bytes that are as they are.
func (p *pen) steps(control byte, lits string, l ...api.Seq) *pen {
	p.t.Helper()
	p.ready(control)
	ahead := p.out[p.from:]
	text := slices.Clone(ahead)
	for _, s := range l {
		text, lits = append(text, lits[:s.Lits]...), lits[s.Lits:]
		for range s.Match {
			text = append(text, text[len(text)-s.Back])
		}
	}
	return p.chunk(control, text, l)
}

// packed lays an LZMA chunk of this text, with copies that a search finds.
func (p *pen) packed(control byte, text string) *pen {
	p.t.Helper()
	p.ready(control)
	all := append(slices.Clone(p.out[p.from:]), text...)
	return p.chunk(control, all, finder.Parse(all, len(all)-len(text), 2, api.MaxWindow, 2, 273))
}

func (p *pen) chunk(control byte, text []byte, l []api.Seq) *pen {
	p.t.Helper()
	ahead := len(p.out) - p.from
	c, e := p.s.Chunk(text, ahead, ahead, l)
	if e != api.OK || len(c) > 65536 {
		p.t.Fatalf("Chunk of %d bytes, of which %d are ahead: %d bytes, %d", len(text), ahead, len(c), int(e))
	}
	p.b = append(p.b, packedHeadOf(control, byte((p.pb*5+p.lp)*9+p.lc), len(text)-ahead, len(c))...)
	p.b = append(p.b, c...)
	p.out = append(p.out, text[ahead:]...)
	return p
}

// end gives all chunks and the end.
func (p *pen) end() []byte {
	return append(slices.Clone(p.b), 0)
}

// reads looks that the chunks tell what was laid, by a window as long as all of it.
func (p *pen) reads(what string) *pen {
	p.t.Helper()
	takes(p.t, what, p.end(), max(1, len(p.out)), p.out)
	return p
}

// noise gives bytes of no kind.
func noise(r *rand.Rand, n int) []byte {
	b := make([]byte, n)
	r.Read(b)
	return b
}

// words gives a text of words, some of which come often.
func words(r *rand.Rand, n int) []byte {
	list := []string{"the ", "graph ", "of ", "stages ", "a ", "window ", "bytes, ", "and ", "copies; ", "far ", "behind.\n", "0123456789"}
	var b []byte
	for len(b) < n {
		b = append(b, list[min(r.Intn(len(list)), r.Intn(len(list)))]...)
		if r.Intn(9) == 0 {
			b = append(b, byte('A'+r.Intn(26)))
		}
	}
	return b[:n]
}

func step(lits, match, back int) api.Seq {
	return api.Seq{Lits: lits, Match: match, Back: back}
}

// some lays chunks of all kinds behind one that throws the dictionary away.
func (p *pen) some(r *rand.Rand, chunks, most int) *pen {
	p.t.Helper()
	text := func() string {
		n := 1 + r.Intn(most)
		switch r.Intn(4) {
		case 0:
			return string(noise(r, n))
		case 1:
			from := r.Intn(len(p.out) + 1)
			return string(append(slices.Clone(p.out[from:min(from+n, len(p.out))]), 'x'))
		}
		return string(words(r, n))
	}
	controls := []byte{1, 2, 2, 0x80, 0x80, 0x80, 0xa0, 0xa0, 0xc0, 0xe0}
	settled := false
	for k := range chunks {
		control := controls[r.Intn(len(controls))]
		if k == 0 {
			control = []byte{1, 0xe0}[r.Intn(2)]
		}
		if control >= 0x80 && control < 0xc0 && !settled {
			control = 0xc0
		}
		settled = control >= 0xc0 || settled && control != 1
		if control < 3 {
			p.plain(control, text())
			continue
		}
		if control >= 0xc0 {
			lp := r.Intn(5)
			p.settings(r.Intn(5-lp), lp, r.Intn(5))
		}
		p.packed(control, text())
	}
	return p
}

// bytesOf gives the bytes that hexadecimal digits tell.
func bytesOf(t *testing.T, digits string) []byte {
	t.Helper()
	b, err := hex.DecodeString(digits)
	if err != nil {
		t.Fatal(err)
	}
	return b
}
