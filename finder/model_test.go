package finder

import (
	"math/big"
	"math/rand"
	"testing"

	"baler/api"
)

// into brings n into low to high, as DOC.md's Words say.
func into(n, low, high int) int {
	if n < low {
		return low
	}
	if n > high {
		return high
	}
	return n
}

// bounds are Parse's numbers, brought into what P8.1 says.
type bounds struct{ from, level, window, least, most int }

func brought(b []byte, from, level, window, least, most int) bounds {
	least = into(least, 2, 65536)
	return bounds{into(from, 0, len(b)), into(level, 0, 3), into(window, 1, 16777216), least, into(most, least, 65536)}
}

// hold holds steps against P8.1's words, byte by byte, and tells how many matches they have.
func hold(t *testing.T, b []byte, x bounds, l []api.Seq) int {
	t.Helper()
	at, matches := x.from, 0
	for i, s := range l {
		if s.Lits < 0 || s.Lits > len(b)-at {
			t.Fatalf("%+v: step %d of %d: %+v at %d of %d", x, i, len(l), s, at, len(b))
		}
		at += s.Lits
		if s.Match == 0 {
			if i != len(l)-1 || s.Back != 0 || s.Lits < 1 {
				t.Fatalf("%+v: step %d of %d: %+v without a match", x, i, len(l), s)
			}
			continue
		}
		matches++
		if s.Match < x.least || s.Match > x.most || s.Match > len(b)-at || s.Back < 1 || s.Back > x.window || s.Back > at {
			t.Fatalf("%+v: step %d of %d: %+v at %d of %d", x, i, len(l), s, at, len(b))
		}
		for k := range s.Match {
			if b[at+k] != b[at+k-s.Back] {
				t.Fatalf("%+v: step %d of %d: %+v at %d: byte %d is another one", x, i, len(l), s, at, k)
			}
		}
		at += s.Match
	}
	if at != len(b) {
		t.Fatalf("%+v: the steps end at %d of %d", x, at, len(b))
	}
	if x.from == len(b) && len(l) != 0 {
		t.Fatalf("%+v: steps of nothing: %v", x, l)
	}
	if x.level == 0 && matches > 0 {
		t.Fatalf("%+v: matches at level 0: %v", x, l)
	}
	return matches
}

// plain tells b's first from bytes and the bytes behind them that are Lits in the steps.
func plain(b []byte, from int, l []api.Seq) []byte {
	out := append([]byte{}, b[:from]...)
	for _, s := range l {
		out = append(out, b[from:from+s.Lits]...)
		from += s.Lits + s.Match
	}
	return out
}

// backModel reads P8.3 word by word: all errors first, in numbers of any size, then byte by byte.
func backModel(b []byte, from int, l []api.Seq) ([]byte, api.Errno) {
	if from < 0 || from > len(b) {
		return nil, api.ErrArg
	}
	whole, lits := big.NewInt(int64(from)), new(big.Int)
	for _, s := range l {
		if s.Lits < 0 || s.Match < 0 || s.Back < 0 {
			return nil, api.ErrMalformed
		}
		whole.Add(whole, big.NewInt(int64(s.Lits)))
		lits.Add(lits, big.NewInt(int64(s.Lits)))
		if s.Match > 0 && (s.Back == 0 || big.NewInt(int64(s.Back)).Cmp(whole) > 0) {
			return nil, api.ErrMalformed
		}
		whole.Add(whole, big.NewInt(int64(s.Match)))
	}
	if lits.Cmp(big.NewInt(int64(len(b)-from))) > 0 || whole.Cmp(big.NewInt(1<<24)) > 0 {
		return nil, api.ErrMalformed
	}
	out := append([]byte{}, b[:from]...)
	next := from
	for _, s := range l {
		for range s.Lits {
			out = append(out, b[next])
			next++
		}
		for range s.Match {
			out = append(out, out[len(out)-s.Back])
		}
	}
	return out, api.OK
}

// texts are of all kinds: many like parts, few, none, runs, periods.
func texts() map[string][]byte {
	r := rand.New(rand.NewSource(8))
	noise := make([]byte, 3000)
	r.Read(noise)
	two := make([]byte, 3000)
	for i := range two {
		two[i] = byte('a' + r.Intn(2))
	}
	var words []byte
	for len(words) < 5000 {
		words = append(words, []string{"the ", "quick ", "brown ", "fox; ", "jumps ", "over ", "it. "}[r.Intn(7)]...)
	}
	ramp := make([]byte, 256)
	for i := range ramp {
		ramp[i] = byte(i)
	}
	copies := append([]byte{}, noise[:1000]...)
	for len(copies) < 6000 {
		at, n := r.Intn(len(copies)-300), 1+r.Intn(300)
		copies = append(append(copies, copies[at:at+n]...), byte(r.Intn(256)))
	}
	runs := []byte{}
	for len(runs) < 3000 {
		c := byte(r.Intn(3))
		for range 1 + r.Intn(200) {
			runs = append(runs, c)
		}
	}
	return map[string][]byte{
		"noise": noise, "two letters": two, "words": words, "no two alike": ramp, "copies": copies, "runs": runs,
		"one": {7}, "two": {7, 7}, "three": {7, 7, 7}, "two unlike": {7, 8}, "none": nil, "zeros": make([]byte, 1000),
	}
}
