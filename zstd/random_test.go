package zstd_test

import (
	"bytes"
	"fmt"
	"math/rand"
	"slices"
	"testing"

	"baler/api"
	"baler/zstd"
)

// someFrame lays a frame of blocks of all kinds, and tells its content.
func someFrame(t *testing.T, r *rand.Rand) (b, content []byte) {
	t.Helper()
	p := newPen(t)
	p.raw("begin")
	var section []byte
	var steps []api.Seq
	for range r.Intn(8) {
		switch r.Intn(5) {
		case 0:
			p.raw(string(abcd(r.Int63(), r.Intn(30))))
		case 1:
			p.alike(byte(r.Intn(256)), r.Intn(40))
		case 2:
			p.packed(abcd(r.Int63(), r.Intn(700)))
		case 3:
			steps = nil
			for range 1 + r.Intn(6) {
				steps = append(steps, api.Seq{Lits: r.Intn(3), Match: 3 + r.Intn(20), Back: 4 + r.Intn(5)})
			}
			section = stepsOf(t, steps...)
			p.packedBy(abcd(r.Int63(), 20), section, steps...)
		case 4:
			if steps != nil {
				p.packedBy(abcd(r.Int63(), 20), leaning(t, section, r.Intn(8)), steps...)
			}
		}
	}
	s := shape{sum: r.Intn(2) == 0, fourth: r.Intn(2) == 0, dict: r.Intn(4), window: byte(r.Intn(20))}
	if r.Intn(2) == 0 {
		s.form, s.size, s.single = 2+r.Intn(2), uint64(len(p.content)), r.Intn(2) == 0
	}
	return p.frame(s), p.content
}

// P15.1, P15.4, P15.5: frames of many kinds are taken whole, and cut anywhere they are ErrTruncated.
func TestSomeFrames(t *testing.T) {
	r := rand.New(rand.NewSource(1))
	for k := range 300 {
		b, content := someFrame(t, r)
		takes(t, fmt.Sprintf("frame %d", k), b, content)
	}
}

// changed gives bytes of which some are others, are missing, or are more.
func changed(r *rand.Rand, b []byte) []byte {
	b = slices.Clone(b)
	for range 1 + r.Intn(3) {
		at := r.Intn(len(b))
		if r.Intn(2) == 0 {
			at = r.Intn(min(len(b), 16))
		}
		switch r.Intn(6) {
		case 0:
			b[at] = byte(r.Intn(256))
		case 1, 2:
			b[at] ^= 1 << r.Intn(8)
		case 3:
			b = slices.Insert(b, at, byte(r.Intn(256)))
		case 4:
			if len(b) > 1 {
				b = slices.Delete(b, at, at+1)
			}
		case 5:
			b = b[:max(at, 1)]
		}
	}
	return b
}

// P10: whatever bytes are read, Member tells what the model tells; with a greater budget the same, where that is not ErrOverBudget;
// and Window tells Member's error as far as the head goes.
func TestChangedFrames(t *testing.T) {
	r := rand.New(rand.NewSource(2))
	tally := map[api.Errno]int{}
	for range 20_000 {
		b, _ := someFrame(t, r)
		b = changed(r, b)
		budget := []int{0, 700, 1024, 1300, 4096, 1 << 24}[r.Intn(6)]
		got, want := ask(b, budget), modelOf(b, budget)
		tally[got.e]++
		if !got.same(want) {
			t.Fatalf("% x, %d: %s; want %s", b, budget, got.brief(), want.brief())
		}
		if more := ask(b, 1<<24); got.e != api.ErrOverBudget && !more.same(got) {
			t.Fatalf("% x: with a greater budget %s; with %d %s", b, more.brief(), budget, got.brief())
		}
		w, e := zstd.Window(b)
		if full := ask(b, 1<<24); e != api.OK && (e != full.e || w != 0 || len(full.out) > 0) {
			t.Fatalf("% x: Window %d, %d; Member %s", b, w, int(e), full.brief())
		}
		if e == api.OK && (got.e == api.ErrOverBudget) != (w > budget) {
			t.Fatalf("% x: Window %d; with %d %s", b, w, budget, got.brief())
		}
	}
	for _, e := range []api.Errno{api.OK, api.ErrTruncated, api.ErrMalformed, api.ErrUnsupported, api.ErrOverBudget} {
		if tally[e] == 0 {
			t.Errorf("no bytes were found that are %d", int(e))
		}
	}
}

// P10: bytes that are none of anything behind the first ones.
func TestNoise(t *testing.T) {
	r := rand.New(rand.NewSource(3))
	for range 50_000 {
		b := make([]byte, r.Intn(40))
		r.Read(b)
		b = slices.Concat([]byte("\x28\xb5\x2f\xfd"), b)
		if len(b) > 4 && r.Intn(2) == 0 {
			b[4] &^= 8 | 3
		}
		if got, want := ask(b, 1<<24), modelOf(b, 1<<24); !got.same(want) {
			t.Fatalf("% x: %s; want %s", b, got.brief(), want.brief())
		}
	}
}

// P3: members one behind the other, skippable ones between them, each tell how many bytes they have.
func TestMembersInARow(t *testing.T) {
	r := rand.New(rand.NewSource(4))
	var all, want, got []byte
	for k := range 40 {
		b, content := someFrame(t, r)
		all, want = append(all, b...), append(want, content...)
		all = append(all, skippable(k%16, string(abcd(int64(k), k)))...)
	}
	for rest := all; len(rest) > 0; {
		out, used, e := zstd.Member(rest, 1<<24)
		if e != api.OK || used < 1 || used > len(rest) {
			t.Fatalf("%d bytes left: %d used, %d", len(rest), used, int(e))
		}
		got, rest = append(got, out...), rest[used:]
	}
	if !bytes.Equal(got, want) {
		t.Errorf("%d bytes, not the %d that were laid", len(got), len(want))
	}
}
