package lzmaput

import (
	"bytes"
	"math/rand"
	"testing"

	"baler/api"
)

// contrary gives bytes each bit of which is the less likely one by what the chances have learned up to there, with nothing ahead.
// Of all bytes these take most: from an even chance on, no row of bits takes more than one that goes against it each time.
func contrary(lc, lp, n int) []byte {
	type name struct{ tree, m int }
	chances := map[name]int{}
	b, last := make([]byte, n), 0
	for k := range b {
		tree := k&(1<<lp-1)<<lc | last>>(8-lc)
		m := 1
		for m < 256 {
			p, ok := chances[name{tree, m}]
			if !ok {
				p = 1024
			}
			bit := 0
			if p > 1024 || p == 1024 && k&1 == 1 {
				bit = 1
			}
			if bit == 0 {
				p += (2048 - p) / 32
			} else {
				p -= p / 32
			}
			chances[name{tree, m}] = p
			m = 2*m + bit
		}
		last = m - 256
		b[k] = byte(last)
	}
	return b
}

// wantBound looks at how many bytes b takes by a new state, without a match.
func wantBound(t *testing.T, what string, lc, lp, pb, total int, b []byte) {
	t.Helper()
	n := len(b)
	told := pairOf(t, lc, lp, pb).tells(b, 0, total, []api.Seq{step(n, 0, 0)})
	if len(told) > n+n/8+16 {
		t.Errorf("%s, settings %d %d %d: %d bytes take %d", what, lc, lp, pb, n, len(told))
	}
}

// P14.4: bytes all alike, all different, of no kind, and the worst there are, of all settings.
func TestBound(t *testing.T) {
	r := rand.New(rand.NewSource(14))
	different := make([]byte, 256)
	for k, x := range r.Perm(256) {
		different[k] = byte(x)
	}
	eachSetting(func(lc, lp, pb int) {
		worst, random := contrary(lc, lp, 3000), noise(r, 3000)
		for n := 1; n <= 3000; n += 1 + n/12 {
			wantBound(t, "noise", lc, lp, pb, 0, random[:n])
			wantBound(t, "the worst", lc, lp, pb, 0, worst[:n])
			wantBound(t, "one byte 0", lc, lp, pb, 5, make([]byte, n))
			wantBound(t, "one byte", lc, lp, pb, 0, bytes.Repeat([]byte{byte(n)}, n))
			if n <= 256 {
				wantBound(t, "all different", lc, lp, pb, 0, different[:n])
			}
		}
	})
}

// P14.4: many bytes.
func TestBoundOfMany(t *testing.T) {
	r := rand.New(rand.NewSource(15))
	for _, x := range [][3]int{{3, 0, 2}, {0, 0, 0}, {4, 0, 4}, {0, 4, 4}} {
		wantBound(t, "noise", x[0], x[1], x[2], 0, noise(r, 1<<18))
		wantBound(t, "the worst", x[0], x[1], x[2], 0, contrary(x[0], x[1], 1<<18))
	}
	wantBound(t, "the most noise", 3, 0, 2, 0, noise(r, 1<<21))
}

// P14.4: behind a Reset it holds as for a new state, whatever was told ahead of it.
func TestBoundBehindReset(t *testing.T) {
	eachSetting(func(lc, lp, pb int) {
		x, _ := worn(t, lc, lp, pb)
		for _, b := range [][]byte{contrary(lc, lp, 3000), contrary(lc, lp, 40)} {
			n := len(b)
			if told := x.reset().tells(b, 0, 0, []api.Seq{step(n, 0, 0)}); len(told) > n+n/8+16 {
				t.Errorf("settings %d %d %d: %d bytes take %d", lc, lp, pb, n, len(told))
			}
		}
	})
}
