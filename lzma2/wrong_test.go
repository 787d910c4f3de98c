package lzma2

import (
	"bytes"
	"fmt"
	"math/rand"
	"slices"
	"strings"
	"testing"

	"baler/api"
)

// P16.1: nothing at all.
func TestNothing(t *testing.T) {
	for _, size := range []int{1, 9, 1 << 24} {
		wants(t, "nil", nil, size, refused(api.ErrTruncated, ""))
		wants(t, "empty", []byte{}, size, refused(api.ErrTruncated, ""))
	}
	wants(t, "nothing behind a chunk", plainChunk(1, "abc"), 9, refused(api.ErrTruncated, "abc"))
}

// zerosBy gives a chunk with this control, which tells nothing but bytes 0 to a state that was reset.
func zerosBy(t *testing.T, control byte) (b, out []byte) {
	t.Helper()
	switch {
	case control == 0:
		return []byte{0}, nil
	case control < 0x80:
		return append([]byte{control, 0, 4}, make([]byte, 5)...), make([]byte, 5)
	}
	p := newPen(t)
	p.ready(0xe0)
	p.packed(0xe0, string(make([]byte, int(control%32)<<16+5)))
	head := packedHeadOf(control&^31, 0x5d, len(p.out), len(p.b)-6)
	return append(head, p.b[6:]...), p.out
}

// P16.1: each control, of the first chunk, and behind chunks of each other kind, whole and cut anywhere in its head.
func TestEachControl(t *testing.T) {
	t.Parallel()
	few := map[string]int{"first": 1, "behind 1": 1, "behind E0": 1}
	for c := range 256 {
		control := byte(c)
		b, out := zerosBy(t, control)
		none := control >= 3 && control < 0x80
		clears := control == 1 || control >= 0xe0
		unsettled := control >= 0x80 && control < 0xc0
		for _, ahead := range []struct {
			what    string
			p       *pen
			settled bool
		}{
			{"first", newPen(t), false},
			{"behind 1", newPen(t).plain(1, "ab"), false},
			{"behind E0", newPen(t).settings(3, 0, 0).packed(0xe0, "x"), true},
			{"behind E0 and 2", newPen(t).settings(3, 0, 0).packed(0xe0, "x").plain(2, "\x00\x00"), true},
			{"behind E0 and 1", newPen(t).packed(0xe0, "x").plain(1, "ab"), false},
			{"behind 1 and C0", newPen(t).plain(1, "ab").settings(3, 0, 0).packed(0xc0, "x"), true},
			{"behind E0, A0 and 80", newPen(t).packed(0xe0, "x").packed(0xa0, "y").packed(0x80, "z"), true},
		} {
			if rest := control & 31; control >= 0x80 && rest > 1 && rest < 31 && few[ahead.what] == 0 {
				continue // such as tell much differ from those by how much they tell alone
			}
			before := string(ahead.p.out)
			what := fmt.Sprintf("control %02x, %s", control, ahead.what)
			whole := slices.Concat(ahead.p.b, b, []byte{0})
			switch {
			case control == 0:
				wants(t, what, whole, 9, told(ahead.p.out, len(whole)-1))
				continue
			case none, before == "" && !clears, unsettled && !ahead.settled:
				wants(t, what, whole, 9, refused(api.ErrMalformed, before))
				wants(t, what+", its bytes cut", whole[:len(whole)-2], 9, refused(api.ErrMalformed, before))
			case unsettled:
				// Which bytes such a chunk tells here hangs on what is ahead; that there is nothing wrong with its head shows as it is cut.
				if got, want := ask(whole, 9), modelOf(whole, 9); !got.same(want) {
					t.Errorf("%s: %s; want %s", what, got.brief(), want.brief())
				}
				wants(t, what+", its bytes cut", whole[:len(whole)-2], 9, refused(api.ErrTruncated, before))
			case control < 3 || clears:
				wants(t, what, whole, 9, told(append([]byte(before), out...), len(whole)))
				wants(t, what+", its bytes cut", whole[:len(whole)-2], 9, refused(api.ErrTruncated, before))
			}
			for n := 1; n < headSize(control) && !none; n++ {
				wants(t, what+", its head cut", whole[:len(ahead.p.b)+n], 9, refused(api.ErrTruncated, before))
			}
		}
	}
}

// P16.1: the byte that tells the settings: up to 224, and lc and lp together up to 4.
func TestEachSettings(t *testing.T) {
	for props := range 256 {
		lc, lp := props%9, props/9%5
		want := refused(api.ErrMalformed, "")
		if props <= 224 && lc+lp <= 4 {
			want = told([]byte{0}, 13)
		}
		b := []byte("\xe0\x00\x00\x00\x05" + string([]byte{byte(props)}) + zero + "\x00")
		wants(t, fmt.Sprintf("settings %d", props), b, 9, want)
		b = append([]byte("\x01\x00\x00\x00"), b...)
		b[4] = 0xc0
		want.out = append([]byte{0}, want.out...)
		if want.e == api.OK {
			want.used += 4
		}
		wants(t, fmt.Sprintf("settings %d in the middle", props), b, 9, want)
	}
}

// P16.1: of two faults the one that is named first is told.
func TestTwoFaults(t *testing.T) {
	const settled = "\xe0\x00\x00\x00\x05\x5d" + zero
	for what, x := range map[string]struct {
		b, out string
		want   api.Errno
	}{
		"the first one, its head cut":                      {"\x80\x00", "", api.ErrTruncated},
		"the first one of C0, its head cut":                {"\xc0\x00\x00\x00\x05", "", api.ErrTruncated},
		"the first one of 2, its head cut":                 {"\x02\x00", "", api.ErrTruncated},
		"the first one of 2, its bytes cut":                {"\x02\x00\x02a", "", api.ErrMalformed},
		"the first one of C0, its bytes cut":               {"\xc0\x00\x00\x00\x05\x5d", "", api.ErrMalformed},
		"no control, and nothing behind it":                {"\x7f", "", api.ErrMalformed},
		"no settings, its head cut":                        {"\x01\x00\x00a\x80\x00\x00\x00", "a", api.ErrTruncated},
		"no settings, its bytes cut":                       {"\x01\x00\x00a\x80\x00\x00\x00\x05", "a", api.ErrMalformed},
		"no settings since, its bytes cut":                 {settled + "\x01\x00\x00a\xbf\x00\x00\x00\x05", "\x00a", api.ErrMalformed},
		"wrong settings, its bytes cut":                    {"\xe0\x00\x00\x00\x05\xe1\x00\x00", "", api.ErrTruncated},
		"wrong settings, nothing behind them":              {"\xe0\x00\x00\x00\x05\xff", "", api.ErrTruncated},
		"a chunk that is none, its bytes cut":              {"\xe0\x00\x00\x00\x05\x5d\x01\x00\x00\x00\x00", "", api.ErrTruncated},
		"a chunk that is none, and no end":                 {"\xe0\x00\x00\x00\x05\x5d\x01\x00\x00\x00\x00\x00", "", api.ErrMalformed},
		"a wrong chunk ahead of one that is cut":           {settled + "\x03\x01", "\x00", api.ErrMalformed},
		"a cut chunk whose bytes would be a wrong control": {"\x01\x00\x05\x03\x03\x03", "", api.ErrTruncated},
	} {
		wants(t, what, []byte(x.b), 9, refused(x.want, x.out))
		wants(t, what+", and no size", []byte(x.b), 0, refused(api.ErrArg, ""))
	}
}

// P16.1: an LZMA chunk's bytes of which one is missing, one is more, or one is another.
func TestChangedChunk(t *testing.T) {
	r := rand.New(rand.NewSource(6))
	p := newPen(t).packed(0xe0, string(words(r, 50)))
	at, ahead := len(p.b), string(p.out)
	p.packed(0x80, string(words(r, 90)))
	n, has := len(p.out)-len(ahead), len(p.b)-at-5
	relaid := func(chunk []byte) []byte {
		return slices.Concat(p.b[:at], packedHeadOf(0x80, 0, n, len(chunk)), chunk, []byte{0})
	}
	chunk := p.b[at+5:]
	wants(t, "as it was", relaid(chunk), 1<<16, told(p.out, len(p.b)+1))
	for k := range has + 1 {
		more := slices.Insert(slices.Clone(chunk), k, byte(r.Intn(256)))
		if k == has {
			wants(t, "one byte more behind it", relaid(more), 1<<16, refused(api.ErrMalformed, ahead))
		}
		if got, want := ask(relaid(more), 1<<16), modelOf(relaid(more), 1<<16); !got.same(want) {
			t.Errorf("a byte more at %d: %s; want %s", k, got.brief(), want.brief())
		}
	}
	for k := range has {
		less := slices.Delete(slices.Clone(chunk), k, k+1)
		if k == has-1 {
			wants(t, "the last one is missing", relaid(less), 1<<16, refused(api.ErrMalformed, ahead))
		}
		other := slices.Clone(chunk)
		other[k] ^= byte(1 << r.Intn(8))
		for _, c := range [][]byte{less, other} {
			got := ask(relaid(c), 1<<16)
			if want := modelOf(relaid(c), 1<<16); !got.same(want) {
				t.Errorf("changed at %d: %s; want %s", k, got.brief(), want.brief())
			}
			if got.e != api.OK && (got.e != api.ErrMalformed || string(got.out) != ahead) {
				t.Errorf("changed at %d: %s", k, got.brief())
			}
		}
	}
	// One byte more or less is told than the chunk has.
	for _, tells := range []int{n - 1, n + 1} {
		b := slices.Concat(p.b[:at], packedHeadOf(0x80, 0, tells, has), chunk, []byte{0})
		wants(t, "the chunk tells otherwise many", b, 1<<16, refused(api.ErrMalformed, ahead))
	}
}

// P16.5: cut anywhere, bytes that are taken are ErrTruncated, and tell all chunks that are whole.
func TestCutAnywhere(t *testing.T) {
	r := rand.New(rand.NewSource(7))
	for k := range 12 {
		p := newPen(t).some(r, 1+k, 200)
		b := p.end()
		wants(t, "whole", b, 1<<16, told(p.out, len(b)))
		most := 0
		for n := range len(b) {
			got := ask(b[:n], 1<<16)
			if got.e != api.ErrTruncated || got.used != 0 || !bytes.HasPrefix(p.out, got.out) || len(got.out) < most {
				t.Fatalf("%d of %d bytes: %s", n, len(b), got.brief())
			}
			if want := modelOf(b[:n], 1<<16); !got.same(want) {
				t.Fatalf("%d of %d bytes: %s; want %s", n, len(b), got.brief(), want.brief())
			}
			most = len(got.out)
		}
		if most != len(p.out) {
			t.Errorf("all but the end: %d bytes of %d", most, len(p.out))
		}
	}
}

// P16.5: whatever is wrong behind chunks that are right, these are told.
func TestTellsWhatIsAhead(t *testing.T) {
	r := rand.New(rand.NewSource(8))
	for k := range 60 {
		p := newPen(t).some(r, 1+k%7, 300)
		for what, wrong := range map[string]string{
			"no control": "\x03", "no control, and more": "\x7f\x00\x00\x00\x00", "wrong settings": "\xe0\x00\x00\x00\x05\xe1" + zero,
			"no chunk": "\xc0\x00\x00\x00\x05\x5d\x01\x00\x00\x00\x00\x00", "too few bytes": "\xe0\x00\xff\x00\x05\x5d" + zero,
		} {
			wants(t, what, slices.Concat(p.b, []byte(wrong), []byte{0}), 1<<16, refused(api.ErrMalformed, string(p.out)))
		}
	}
}

// P16.1: streams of which some bytes are others, are missing, or are more are read as the model reads them.
func TestChangedStreams(t *testing.T) {
	t.Parallel()
	r := rand.New(rand.NewSource(9))
	tally := map[api.Errno]int{}
	for range 4000 {
		p := newPen(t).some(r, 1+r.Intn(6), 80)
		b := p.end()
		for range 1 + r.Intn(2) {
			at := r.Intn(len(b))
			switch r.Intn(4) {
			case 0:
				b[at] = byte(r.Intn(256))
			case 1:
				b[at] ^= 1 << r.Intn(8)
			case 2:
				b = slices.Insert(b, at, byte(r.Intn(256)))
			case 3:
				b = append(slices.Delete(b, at, at+1), 0)
			}
		}
		size := 1 + r.Intn(1<<r.Intn(12))
		got, want := ask(b, size), modelOf(b, size)
		tally[got.e]++
		if !got.same(want) {
			t.Fatalf("% x, size %d: %s; want %s", b, size, got.brief(), want.brief())
		}
	}
	for _, e := range []api.Errno{api.OK, api.ErrTruncated, api.ErrMalformed} {
		if tally[e] < 20 {
			t.Errorf("few streams are %d: %v", int(e), tally)
		}
	}
}

// P10: bytes of no kind behind a first control.
func TestNoise(t *testing.T) {
	t.Parallel()
	r := rand.New(rand.NewSource(10))
	for range 4000 {
		b := append([]byte{[]byte{0, 1, 2, 0x80, 0xe0, byte(r.Intn(256))}[r.Intn(6)], 0, byte(r.Intn(9)), 0, 5, 0x5d, 0}, noise(r, r.Intn(40))...)
		if got, want := ask(b, 64), modelOf(b, 64); !got.same(want) {
			t.Fatalf("% x: %s; want %s", b, got.brief(), want.brief())
		}
	}
}

// R3: what is handed in is not kept, and what is told is new memory each time.
func TestNewMemory(t *testing.T) {
	p := newPen(t).plain(1, "some bytes").packed(0xc0, "and some more, and some more")
	for _, b := range [][]byte{p.end(), []byte("\x01\x00\x02abc\x00"), p.b} {
		b = append(make([]byte, 0, 2*len(b)), b...)
		first, second := ask(b, 99), ask(b, 99)
		kept := strings.Clone(string(first.out))
		clear(second.out[:cap(second.out)])
		if string(first.out) != kept || string(ask(b, 99).out) != kept {
			t.Error("two answers share memory")
		}
		clear(b)
		if string(first.out) != kept {
			t.Error("what was handed in is kept")
		}
	}
}
