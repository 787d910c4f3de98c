package sequences

import (
	"math"
	"math/big"
	"math/rand"
	"testing"

	"baler/api"
)

// valueModel tells what a back means, in numbers that never wrap round; the error is 0, or that of P13.3.
func valueModel(rep [3]int, lits, back int) (distance int, then [3]int, e api.Errno) {
	if back <= 0 {
		return 0, rep, api.ErrArg
	}
	first, second, third := big.NewInt(int64(rep[0])), big.NewInt(int64(rep[1])), big.NewInt(int64(rep[2]))
	one, three := big.NewInt(1), big.NewInt(3)
	var d *big.Int
	switch {
	case back > 3:
		d = new(big.Int).Sub(big.NewInt(int64(back)), three)
		then = [3]int{0, rep[0], rep[1]}
	case lits == 0 && back == 3:
		d = new(big.Int).Sub(first, one)
		then = [3]int{0, rep[0], rep[1]}
	case lits == 0 && back == 2 || lits != 0 && back == 3:
		d = third
		then = [3]int{0, rep[0], rep[1]}
	case lits == 0 && back == 1 || lits != 0 && back == 2:
		d = second
		then = [3]int{0, rep[0], rep[2]}
	default:
		d = first
		then = [3]int{0, rep[1], rep[2]}
	}
	if d.Cmp(one) < 0 {
		return 0, rep, api.ErrMalformed
	}
	then[0] = int(d.Int64())
	return then[0], then, api.OK
}

// checkValue asks for a value, and holds it against the model.
func checkValue(t *testing.T, rep [3]int, lits, back int) (int, [3]int) {
	t.Helper()
	now := rep
	d, e := Value(&now, lits, back)
	want, then, wantE := valueModel(rep, lits, back)
	if d != want || e != wantE || now != then {
		t.Fatalf("Value(%v, %d, %d) = %d, %v, %d; want %d, %v, %d", rep, lits, back, d, now, int(e), want, then, int(wantE))
	}
	return d, now
}

// numbers are the edges of ints, and small ones.
func numbers() []int {
	return []int{math.MinInt, math.MinInt + 1, math.MinInt + 3, -2, -1, 0, 1, 2, 3, 4, 5, 6, 7, 8, 11, 1 << 28, 1 << 32, math.MaxInt - 4, math.MaxInt - 3, math.MaxInt - 2, math.MaxInt - 1, math.MaxInt}
}

// someReps are kept distances: the first ones, alike ones, and some that no steps lead to.
func someReps() (reps [][3]int) {
	few := []int{math.MinInt, -1, 0, 1, 2, 4, 8, math.MaxInt - 3, math.MaxInt}
	for _, a := range few {
		for _, b := range few {
			for _, c := range few {
				reps = append(reps, [3]int{a, b, c})
			}
		}
	}
	return append(reps, [3]int{9, 4, 8}, [3]int{1, 4, 8}, [3]int{100, 99, 98})
}

// P13.3: the chapter's examples, and each back from 1 to 4 with and without literals.
func TestExamplesOfValue(t *testing.T) {
	for _, x := range []struct {
		rep        [3]int
		lits, back int
		distance   int
		then       [3]int
		e          api.Errno
	}{
		{[3]int{1, 4, 8}, 5, 2, 4, [3]int{4, 1, 8}, api.OK},
		{[3]int{1, 4, 8}, 0, 3, 0, [3]int{1, 4, 8}, api.ErrMalformed},
		{[3]int{9, 4, 8}, 0, 3, 8, [3]int{8, 9, 4}, api.OK},
		{[3]int{1, 4, 8}, 0, 2, 8, [3]int{8, 1, 4}, api.OK},
		{[3]int{1, 4, 8}, 1, 1, 1, [3]int{1, 4, 8}, api.OK},
		{[3]int{1, 4, 8}, 1, 3, 8, [3]int{8, 1, 4}, api.OK},
		{[3]int{1, 4, 8}, 1, 4, 1, [3]int{1, 1, 4}, api.OK},
		{[3]int{1, 4, 8}, 0, 1, 4, [3]int{4, 1, 8}, api.OK},
		{[3]int{1, 4, 8}, 0, 4, 1, [3]int{1, 1, 4}, api.OK},
		{[3]int{2, 4, 8}, 0, 3, 1, [3]int{1, 2, 4}, api.OK},
		{[3]int{1, 4, 8}, 0, 0, 0, [3]int{1, 4, 8}, api.ErrArg},
		{[3]int{1, 4, 8}, 3, -1, 0, [3]int{1, 4, 8}, api.ErrArg},
		{[3]int{5, 0, -3}, 3, 2, 0, [3]int{5, 0, -3}, api.ErrMalformed},
		{[3]int{5, 0, -3}, 0, 2, 0, [3]int{5, 0, -3}, api.ErrMalformed},
		{[3]int{5, 0, -3}, 3, 1, 5, [3]int{5, 0, -3}, api.OK},
		{[3]int{math.MinInt, 4, 8}, 0, 3, 0, [3]int{math.MinInt, 4, 8}, api.ErrMalformed},
		{[3]int{math.MaxInt, 4, 8}, 0, 3, math.MaxInt - 1, [3]int{math.MaxInt - 1, math.MaxInt, 4}, api.OK},
		{[3]int{1, 4, 8}, 0, math.MaxInt, math.MaxInt - 3, [3]int{math.MaxInt - 3, 1, 4}, api.OK},
		// Literals below 0 are not 0.
		{[3]int{1, 4, 8}, -1, 2, 4, [3]int{4, 1, 8}, api.OK},
		{[3]int{1, 4, 8}, math.MinInt, 1, 1, [3]int{1, 4, 8}, api.OK},
	} {
		rep := x.rep
		if d, e := Value(&rep, x.lits, x.back); d != x.distance || e != x.e || rep != x.then {
			t.Errorf("Value(%v, %d, %d) = %d, %v, %d", x.rep, x.lits, x.back, d, rep, int(e))
		}
		checkValue(t, x.rep, x.lits, x.back)
	}
}

// P13.3: a nil rep, ahead of all else.
func TestValueOfNil(t *testing.T) {
	for _, lits := range numbers() {
		for _, back := range numbers() {
			if d, e := Value(nil, lits, back); d != 0 || e != api.ErrNil {
				t.Errorf("Value(nil, %d, %d) = %d, %d", lits, back, d, int(e))
			}
			if d := Pick(nil, lits, back); d != 0 {
				t.Errorf("Pick(nil, %d, %d) = %d", lits, back, d)
			}
		}
	}
}

// P13.3: whatever is kept, with any literals and backs.
func TestValueOfAll(t *testing.T) {
	for _, rep := range someReps() {
		for _, lits := range []int{math.MinInt, -1, 0, 1, 5, math.MaxInt} {
			for _, back := range numbers() {
				checkValue(t, rep, lits, back)
			}
		}
	}
}

// pickModel finds the least back; beyond 3 just one can be it.
func pickModel(rep [3]int, lits, distance int) int {
	if distance < 1 {
		return 0
	}
	for back := 1; back <= 3; back++ {
		if d, _, e := valueModel(rep, lits, back); e == api.OK && d == distance {
			return back
		}
	}
	back := new(big.Int).Add(big.NewInt(int64(distance)), big.NewInt(3))
	if !back.IsInt64() {
		return 0
	}
	return int(back.Int64())
}

// checkPick asks for a back, holds it against the model, and asks what it means.
func checkPick(t *testing.T, rep [3]int, lits, distance int) int {
	t.Helper()
	now := rep
	back := Pick(&now, lits, distance)
	if now != rep {
		t.Fatalf("Pick(%v, %d, %d) has changed them to %v", rep, lits, distance, now)
	}
	if want := pickModel(rep, lits, distance); back != want {
		t.Fatalf("Pick(%v, %d, %d) = %d, want %d", rep, lits, distance, back, want)
	}
	if back > 0 {
		if d, _ := checkValue(t, rep, lits, back); d != distance {
			t.Fatalf("Value(%v, %d, %d) = %d, want %d", rep, lits, back, d, distance)
		}
	}
	return back
}

// P13.4: the chapter's examples, each of the kept distances, one less than the first one, and alike ones.
func TestExamplesOfPick(t *testing.T) {
	for _, x := range []struct {
		rep            [3]int
		lits, distance int
		back           int
	}{
		{[3]int{1, 4, 8}, 5, 100, 103},
		{[3]int{1, 4, 8}, 0, 4, 1},
		{[3]int{1, 4, 8}, 5, 1, 1}, {[3]int{1, 4, 8}, 5, 4, 2}, {[3]int{1, 4, 8}, 5, 8, 3},
		{[3]int{1, 4, 8}, 0, 1, 4}, {[3]int{1, 4, 8}, 0, 8, 2}, {[3]int{9, 4, 8}, 0, 9, 12},
		{[3]int{10, 4, 8}, 0, 9, 3}, {[3]int{10, 4, 8}, 1, 9, 12},
		{[3]int{5, 4, 8}, 0, 4, 1}, {[3]int{9, 4, 8}, 0, 8, 2}, {[3]int{9, 8, 8}, 0, 8, 1},
		{[3]int{4, 4, 8}, 1, 4, 1}, {[3]int{4, 4, 8}, 0, 4, 1}, {[3]int{4, 8, 4}, 1, 4, 1}, {[3]int{4, 8, 4}, 0, 4, 2},
		{[3]int{1, 4, 4}, 1, 4, 2}, {[3]int{1, 4, 4}, 0, 4, 1}, {[3]int{7, 7, 7}, 0, 7, 1}, {[3]int{7, 7, 7}, 0, 6, 3},
		{[3]int{1, 4, 8}, -1, 1, 1}, {[3]int{1, 4, 8}, math.MinInt, 8, 3},
		{[3]int{1, 4, 8}, 5, 0, 0}, {[3]int{1, 4, 8}, 0, 0, 0}, {[3]int{1, 4, 8}, 5, -1, 0}, {[3]int{1, 4, 8}, 0, math.MinInt, 0},
		{[3]int{0, -1, math.MinInt}, 5, 0, 0}, {[3]int{0, -1, math.MinInt}, 5, -1, 0}, {[3]int{0, -1, math.MinInt}, 0, math.MinInt, 0},
		{[3]int{math.MinInt, 4, 8}, 0, math.MaxInt, 0},
		{[3]int{1, 4, 8}, 5, math.MaxInt - 3, math.MaxInt}, {[3]int{1, 4, 8}, 5, math.MaxInt - 2, 0}, {[3]int{1, 4, 8}, 5, math.MaxInt, 0},
		{[3]int{1, math.MaxInt, 8}, 5, math.MaxInt, 2}, {[3]int{math.MaxInt, 4, 8}, 0, math.MaxInt - 1, 3},
	} {
		if back := checkPick(t, x.rep, x.lits, x.distance); back != x.back {
			t.Errorf("Pick(%v, %d, %d) = %d, want %d", x.rep, x.lits, x.distance, back, x.back)
		}
	}
}

// P13.4: whatever is kept, with any literals and distances.
func TestPickOfAll(t *testing.T) {
	for _, rep := range someReps() {
		for _, lits := range []int{math.MinInt, -1, 0, 1, 5, math.MaxInt} {
			for _, distance := range numbers() {
				checkPick(t, rep, lits, distance)
			}
		}
	}
}

// P13.4: no lesser back tells the distance, by Value itself.
func TestPickIsTheLeast(t *testing.T) {
	r := rand.New(rand.NewSource(1320))
	for range 3000 {
		rep := [3]int{r.Intn(12) - 1, r.Intn(12) - 1, r.Intn(12) - 1}
		lits, distance := r.Intn(2), 1+r.Intn(12)
		back := checkPick(t, rep, lits, distance)
		for less := 1; less < back; less++ {
			trial := rep
			if d, e := Value(&trial, lits, less); e == api.OK && d == distance {
				t.Fatalf("Pick(%v, %d, %d) = %d, but %d is enough", rep, lits, distance, back, less)
			}
		}
	}
}

// P13.5: Value and Pick by turns over many distances, from 1 4 8 on, some of which come again.
func TestPickAndValueByTurns(t *testing.T) {
	r := rand.New(rand.NewSource(1321))
	for range 200 {
		rep := [3]int{1, 4, 8}
		seen := [5]int{}
		for range 500 {
			lits := r.Intn(3)
			distance := 1 + r.Intn(1+r.Intn(1<<24))
			switch r.Intn(6) {
			case 0, 1, 2:
				distance = rep[r.Intn(3)]
			case 3:
				distance = max(1, rep[0]-1)
			case 4:
				distance = 1 + r.Intn(5)
			}
			back := checkPick(t, rep, lits, distance)
			seen[min(back, 4)]++
			_, rep = checkValue(t, rep, lits, back)
			if rep[0] != distance {
				t.Fatalf("%d is not at the front of %v", distance, rep)
			}
		}
		for back, times := range seen[1:] {
			if times == 0 {
				t.Fatalf("no back of %d", back+1)
			}
		}
	}
}
