package finder

import (
	"bytes"
	"math"
	"math/rand"
	"slices"
	"testing"

	"baler/api"
)

// back calls Back and holds the answer against the words of P8.3.
func back(t *testing.T, b []byte, from int, l []api.Seq) ([]byte, api.Errno) {
	t.Helper()
	out, e := Back(b, from, l)
	want, we := backModel(b, from, l)
	if e != we || !bytes.Equal(out, want) {
		t.Fatalf("%q, %d, %v: %d bytes, %v; not %d, %v", b[:min(len(b), 50)], from, l[:min(len(l), 20)], len(out), e, len(want), we)
	}
	if e != api.OK && out != nil {
		t.Fatal("bytes beside an error")
	}
	return out, e
}

// P8.3: the chapter's examples, and each error by itself.
func TestBack(t *testing.T) {
	for _, x := range []struct {
		b    string
		from int
		l    []api.Seq
		want string
		e    api.Errno
	}{
		{"abc", 0, []api.Seq{{Lits: 3, Match: 6, Back: 3}}, "abcabcabc", api.OK},
		{"abc", 0, []api.Seq{{Lits: 1, Match: 1, Back: 2}}, "", api.ErrMalformed},
		{"abc", 4, nil, "", api.ErrArg},
		{"abc", -1, nil, "", api.ErrArg},
		{"abc", math.MinInt, nil, "", api.ErrArg},
		{"abc", math.MaxInt, nil, "", api.ErrArg},
		{"", 1, nil, "", api.ErrArg},
		{"", 0, nil, "", api.OK},
		{"", 0, []api.Seq{{}, {}}, "", api.OK},
		{"abc", 0, nil, "", api.OK},
		{"abc", 2, nil, "ab", api.OK},
		{"abc", 3, nil, "abc", api.OK},
		{"abc", 3, []api.Seq{{Match: 4, Back: 3}}, "abcabca", api.OK},
		{"abc", 3, []api.Seq{{Match: 4, Back: 4}}, "", api.ErrMalformed},
		{"abc", 1, []api.Seq{{Lits: 2, Match: 4, Back: 1}}, "abccccc", api.OK},
		{"abc", 1, []api.Seq{{Match: 2, Back: 1}, {Lits: 1}, {Match: 1, Back: 4}, {Lits: 1}}, "aaabac", api.OK},
		{"abc", 0, []api.Seq{{Lits: 2}, {Lits: 1}}, "abc", api.OK},
		{"abc", 0, []api.Seq{{Lits: 2}, {Lits: 2}}, "", api.ErrMalformed},
		{"abc", 1, []api.Seq{{Lits: 2}}, "abc", api.OK},
		{"abc", 1, []api.Seq{{Lits: 3}}, "", api.ErrMalformed},
		{"abc", 0, []api.Seq{{Lits: 1, Match: 1}}, "", api.ErrMalformed},
		{"abc", 0, []api.Seq{{Lits: 1, Match: 0, Back: 9}}, "a", api.OK},
		{"abc", 0, []api.Seq{{Lits: 1, Match: 0, Back: math.MaxInt}}, "a", api.OK},
		{"abc", 0, []api.Seq{{Lits: -1}}, "", api.ErrMalformed},
		{"abc", 2, []api.Seq{{Match: -1, Back: 1}}, "", api.ErrMalformed},
		{"abc", 2, []api.Seq{{Match: 1, Back: -1}}, "", api.ErrMalformed},
		{"abc", 2, []api.Seq{{Match: 0, Back: -1}}, "", api.ErrMalformed},
		{"abc", 2, []api.Seq{{Match: math.MinInt, Back: 1}}, "", api.ErrMalformed},
		{"abc", 4, []api.Seq{{Lits: -1}}, "", api.ErrArg},
		{"abc", 0, []api.Seq{{Match: 1, Back: 1}, {Lits: 3}}, "", api.ErrMalformed},
		{"abc", 0, []api.Seq{{Lits: 3}, {Lits: 0, Match: 1, Back: 0}}, "", api.ErrMalformed},
	} {
		out, e := back(t, []byte(x.b), x.from, x.l)
		if string(out) != x.want || e != x.e {
			t.Errorf("%q, %d, %v: %q, %v", x.b, x.from, x.l, out, e)
		}
	}
}

// P8.3: each number of a step is below 0, or the least or the greatest there is, alone and with others.
func TestBackOddNumbers(t *testing.T) {
	odd := []int{math.MinInt, math.MinInt + 1, -1, 0, 1, 2, 3, 4, 1 << 24, 1<<24 + 1, 1 << 31, 1 << 32, math.MaxInt - 1, math.MaxInt}
	for _, a := range odd {
		for _, b := range odd {
			for _, c := range odd {
				s := api.Seq{Lits: a, Match: b, Back: c}
				back(t, []byte("abc"), 1, []api.Seq{s})
				back(t, []byte("abc"), 1, []api.Seq{{Lits: 1}, s})
				back(t, []byte("abc"), 3, []api.Seq{{Match: 1, Back: 1}, s, {Match: 1, Back: 1}})
			}
		}
	}
	for _, from := range odd {
		back(t, []byte("abc"), from, []api.Seq{{Lits: -1}})
	}
}

// P8.3: sums that are greater than any int.
func TestBackSums(t *testing.T) {
	for _, l := range [][]api.Seq{
		{{Lits: 1, Match: math.MaxInt, Back: 1}},
		{{Lits: 1, Match: math.MaxInt - 1, Back: 1}, {Match: math.MaxInt, Back: 1}},
		{{Lits: math.MaxInt}, {Lits: math.MaxInt}, {Lits: 2}},
		{{Lits: 1, Match: 1 << 62, Back: 1}, {Match: 1 << 62, Back: 1}, {Match: 1 << 62, Back: 1}, {Match: 1 << 62, Back: 1}},
		{{Lits: 1, Match: math.MaxInt, Back: 1}, {Match: math.MaxInt, Back: 1}, {Match: 2, Back: 1}},
		{{Lits: 1, Match: 3, Back: math.MaxInt}},
		slices.Repeat([]api.Seq{{Lits: 1 << 62}}, 4),
	} {
		if _, e := back(t, []byte("abc"), 1, l); e != api.ErrMalformed {
			t.Error(l, e)
		}
	}
}

// P8.3: a whole of just MaxContent bytes, and one more.
func TestBackLongest(t *testing.T) {
	const most = 1 << 24
	b := make([]byte, most+1)
	b[most-1], b[most] = 3, 4
	for _, x := range []struct {
		from int
		l    []api.Seq
		want int
	}{
		{3, []api.Seq{{Match: most - 3, Back: 3}}, most},
		{3, []api.Seq{{Match: most - 2, Back: 3}}, -1},
		{most, nil, most},
		{most + 1, nil, -1},
		{most + 1, []api.Seq{{}}, -1},
		{most, []api.Seq{{Lits: 1}}, -1},
		{most, []api.Seq{{Match: 1, Back: most}}, -1},
		{most - 1, []api.Seq{{Lits: 1}}, most},
		{most - 1, []api.Seq{{Match: 1, Back: most - 1}}, most},
		{most - 2, []api.Seq{{Lits: 1, Match: 1, Back: 1}}, most},
		{most - 2, []api.Seq{{Lits: 1, Match: 1, Back: most - 1}, {Lits: 1}}, -1},
		{0, []api.Seq{{Lits: most}}, most},
		{0, []api.Seq{{Lits: most + 1}}, -1},
		{0, []api.Seq{{Lits: most / 2}, {Match: most / 2, Back: most / 2}, {Match: 0, Back: 5}}, most},
	} {
		out, e := Back(b, x.from, x.l)
		if x.want < 0 && (e != api.ErrMalformed || out != nil) || x.want >= 0 && (e != api.OK || len(out) != x.want) {
			t.Error(x.from, x.l, len(out), e)
		}
	}
}

// P8.3: steps made by chance, right ones and wrong ones, behind each from.
func TestBackByChance(t *testing.T) {
	r := rand.New(rand.NewSource(85))
	good := 0
	for range 20000 {
		b := make([]byte, r.Intn(30))
		r.Read(b)
		from := r.Intn(len(b)+2) - r.Intn(2)
		l := make([]api.Seq, r.Intn(6))
		for i := range l {
			l[i] = api.Seq{Lits: r.Intn(6), Match: r.Intn(2) * r.Intn(40), Back: r.Intn(8)}
			if r.Intn(60) == 0 {
				l[i].Back = -1
			}
		}
		if _, e := back(t, b, from, l); e == api.OK {
			good++
		}
	}
	if good < 2000 {
		t.Error("only", good, "right ones")
	}
}

// P8.5: steps without matches are the beginning of b.
func TestBackWithoutMatches(t *testing.T) {
	b := []byte("what is told as it is")
	for from := range len(b) + 1 {
		for n := range len(b) - from + 1 {
			for cut := range n + 1 {
				out, e := back(t, b, from, []api.Seq{{Lits: cut}, {Back: 3}, {Lits: n - cut, Back: 1}})
				if e != api.OK || !bytes.Equal(out, b[:from+n]) {
					t.Fatalf("%d, %d, %d: %q, %v", from, n, cut, out, e)
				}
			}
		}
	}
}

// R3: what is handed in is not changed, with the room behind its end; the answer is new memory.
func TestBackMemory(t *testing.T) {
	room := []byte("abcdefghij")
	l := []api.Seq{{Lits: 2, Match: 3, Back: 4}, {Lits: 1}, {Lits: 9, Match: 9, Back: 9}}
	kept, steps := bytes.Clone(room), slices.Clone(l)
	out, e := Back(room[:5:10], 2, l[:2])
	if e != api.OK || string(out) != "abcdabce" {
		t.Fatalf("%q, %v", out, e)
	}
	for i := range out {
		out[i] = '!'
	}
	if !bytes.Equal(room, kept) || !slices.Equal(l, steps) {
		t.Errorf("%q, %v", room, l)
	}
	whole, _ := Back(room, 10, nil)
	whole[0] = '!'
	if !bytes.Equal(room, kept) {
		t.Error("shared with b")
	}
	if again, _ := Back(room[:5:10], 2, l[:2]); string(again) != "abcdabce" {
		t.Errorf("%q", again)
	}
}
