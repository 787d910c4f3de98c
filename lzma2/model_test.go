package lzma2

import (
	"bytes"
	"fmt"
	"slices"
	"testing"

	"baler/api"
	"baler/ledger"
	"baler/lzma"
	"baler/window"
)

// What stands here tells Decode once more, in a plain way, one condition behind the other as P16.1 names them.

// answer is what Decode answers.
type answer struct {
	out  []byte
	used int
	e    api.Errno
}

func (a answer) same(other answer) bool {
	return a.e == other.e && a.used == other.used && bytes.Equal(a.out, other.out)
}

func (a answer) brief() string {
	return fmt.Sprintf("%d bytes %.40q, %d used, error %d", len(a.out), a.out, a.used, int(a.e))
}

func ask(b []byte, size int) answer {
	out, used, e := Decode(b, size)
	return answer{out, used, e}
}

func told(out []byte, used int) answer {
	return answer{out, used, api.OK}
}

func refused(e api.Errno, out string) answer {
	return answer{[]byte(out), 0, e}
}

// reader is what the model keeps from chunk to chunk.
type reader struct {
	w        *window.Window
	s        *lzma.State
	out      []byte
	since    int  // bytes since the dictionary was thrown away
	some     bool // if there was a chunk
	settings bool // if there were some since the last control 1
}

func modelOf(b []byte, size int) answer {
	if size < 1 || size > 16777216 {
		return answer{e: api.ErrArg}
	}
	w, e := window.New(size, ledger.New(size))
	if e != api.OK {
		return answer{e: e}
	}
	r := &reader{w: w, s: lzma.New()}
	for at := 0; ; {
		n, e := r.chunk(b[at:])
		if e != api.OK {
			return answer{r.out, 0, e}
		}
		at += n
		if b[at-n] == 0 {
			return answer{r.out, at, api.OK}
		}
	}
}

func headSize(control byte) int {
	switch {
	case control == 0:
		return 1
	case control < 3:
		return 3
	case control < 0xc0:
		return 5
	}
	return 6
}

// chunk reads the chunk with which b begins, and tells how many bytes it has.
func (r *reader) chunk(b []byte) (int, api.Errno) {
	if len(b) == 0 {
		return 0, api.ErrTruncated
	}
	control := b[0]
	if control >= 3 && control <= 0x7f {
		return 0, api.ErrMalformed
	}
	size := headSize(control)
	if len(b) < size {
		return 0, api.ErrTruncated
	}
	if control == 0 {
		return 1, api.OK
	}
	if !r.some && control != 1 && control < 0xe0 {
		return 0, api.ErrMalformed
	}
	r.some = true
	if control >= 0x80 && control < 0xc0 && !r.settings {
		return 0, api.ErrMalformed
	}
	tells := int(b[1])*256 + int(b[2]) + 1
	has := tells
	if control >= 0x80 {
		tells += int(control%32) * 65536
		has = int(b[3])*256 + int(b[4]) + 1
	}
	if len(b) < size+has {
		return 0, api.ErrTruncated
	}
	if control == 1 || control >= 0xe0 {
		r.w.Clear()
		r.since = 0
	}
	if e := r.bytes(control, b[:size], b[size:size+has], tells); e != api.OK {
		return 0, e
	}
	return size + has, api.OK
}

func (r *reader) bytes(control byte, head, b []byte, tells int) (e api.Errno) {
	fresh := b
	if control < 3 {
		r.w.Put(b)
		r.settings = r.settings && control == 2
	} else {
		if control >= 0xc0 {
			if e = r.s.Props(head[5]); e != api.OK {
				return e
			}
			r.settings = true
		} else if control >= 0xa0 {
			r.s.Reset()
		}
		if fresh, e = r.s.Chunk(r.w, r.since, b, tells); e != api.OK {
			return e
		}
	}
	if len(r.out)+len(fresh) > 16777216 {
		return api.ErrLong
	}
	r.out = append(r.out, fresh...)
	r.since += len(fresh)
	return api.OK
}

// wants looks at what Decode answers, that the model answers it too, and that what was handed in is as it was.
func wants(t *testing.T, what string, b []byte, size int, want answer) {
	t.Helper()
	room := b[:cap(b)]
	kept := slices.Clone(room)
	got := ask(b, size)
	if !got.same(want) {
		t.Errorf("%s: % .60x, size %d: %s; want %s", what, b, size, got.brief(), want.brief())
	}
	if model := modelOf(b, size); !got.same(model) {
		t.Errorf("%s: % .60x, size %d: %s; by the model %s", what, b, size, got.brief(), model.brief())
	}
	if !bytes.Equal(room, kept) {
		t.Errorf("%s: what was handed in is changed", what)
	}
}

// takes looks that b is read whole, with other bytes behind it, by just such a window and a greater one.
func takes(t *testing.T, what string, b []byte, size int, out []byte) {
	t.Helper()
	wants(t, what, b, size, told(out, len(b)))
	wants(t, what+", a greater window", b, min(2*size+1, api.MaxWindow), told(out, len(b)))
	for _, behind := range []string{"\x00", "\x01", "\xff\xff\xff", "bytes"} {
		wants(t, what+", bytes behind", append(slices.Clone(b), behind...), size, told(out, len(b)))
	}
}
