package ledger

import (
	"math"
	"math/big"
	"math/rand"
	"sync"
	"testing"

	"baler/api"
)

const top = 1 << 24

// model is a ledger by the chapter's words alone, in numbers that never wrap round.
type model struct {
	budget, now, most *big.Int
}

func modelOf(budget int) *model {
	m := &model{big.NewInt(int64(budget)), new(big.Int), new(big.Int)}
	if m.budget.Sign() < 0 {
		m.budget.SetInt64(0)
	}
	if m.budget.Cmp(big.NewInt(top)) > 0 {
		m.budget.SetInt64(top)
	}
	return m
}

func (m *model) charge(n int) api.Errno {
	if n < 0 {
		return api.ErrArg
	}
	sum := new(big.Int).Add(m.now, big.NewInt(int64(n)))
	if sum.Cmp(m.budget) > 0 {
		return api.ErrOverBudget
	}
	m.now = sum
	if m.now.Cmp(m.most) > 0 {
		m.most = m.now
	}
	return api.OK
}

func (m *model) release(n int) api.Errno {
	rest := new(big.Int).Sub(m.now, big.NewInt(int64(n)))
	if n < 0 || rest.Sign() < 0 {
		return api.ErrArg
	}
	m.now = rest
	return api.OK
}

func charge(t *testing.T, l *Ledger, n int, want api.Errno) {
	t.Helper()
	if e := l.Charge(n); e != want {
		t.Fatalf("Charge(%d) = %d; want %d", n, int(e), int(want))
	}
}

func release(t *testing.T, l *Ledger, n int, want api.Errno) {
	t.Helper()
	if e := l.Release(n); e != want {
		t.Fatalf("Release(%d) = %d; want %d", n, int(e), int(want))
	}
}

func held(t *testing.T, l *Ledger, now, most int) {
	t.Helper()
	if gotNow, gotMost := l.Held(); gotNow != now || gotMost != most {
		t.Fatalf("Held = %d, %d; want %d, %d", gotNow, gotMost, now, most)
	}
}

// together runs work in many goroutines, each with its number, and waits for all.
func together(many int, work func(k int)) {
	var start, end sync.WaitGroup
	start.Add(1)
	for k := range many {
		end.Go(func() {
			start.Wait()
			work(k)
		})
	}
	start.Done()
	end.Wait()
}

func sum(list []int) int {
	all := 0
	for _, x := range list {
		all += x
	}
	return all
}

func TestExamples(t *testing.T) {
	l := New(10)
	charge(t, l, 7, api.OK)
	charge(t, l, 4, api.ErrOverBudget)
	charge(t, l, 3, api.OK)
	held(t, l, 10, 10)
	release(t, l, 11, api.ErrArg)
	release(t, l, 4, api.OK)
	held(t, l, 6, 10)
	charge(t, l, -1, api.ErrArg)

	l = New(-5)
	charge(t, l, 0, api.OK)
	charge(t, l, 1, api.ErrOverBudget)
}

func TestErrorNumbers(t *testing.T) {
	var none *Ledger
	if e := none.Charge(1); e != 1 {
		t.Error("nil:", int(e))
	}
	if e := New(1).Charge(-1); e != 2 {
		t.Error("below 0:", int(e))
	}
	if e := New(1).Charge(2); e != 40 {
		t.Error("above the budget:", int(e))
	}
}

// P4.1: the budget is brought into 0 to 2^24; just that much can be held.
func TestNewBringsItsBudgetIn(t *testing.T) {
	for _, c := range []struct{ budget, room int }{
		{math.MinInt, 0}, {-top, 0}, {-2, 0}, {-1, 0}, {0, 0}, {1, 1}, {2, 2}, {1000, 1000},
		{top - 1, top - 1}, {top, top}, {top + 1, top}, {2 * top, top},
		{1 << 31, top}, {1 << 32, top}, {1<<32 + 5, top}, {math.MaxInt, top},
	} {
		l := New(c.budget)
		held(t, l, 0, 0)
		charge(t, l, c.room+1, api.ErrOverBudget)
		held(t, l, 0, 0)
		charge(t, l, c.room, api.OK)
		held(t, l, c.room, c.room)
		charge(t, l, 1, api.ErrOverBudget)
		charge(t, l, 0, api.OK)
		held(t, l, c.room, c.room)
		release(t, l, c.room+1, api.ErrArg)
		release(t, l, c.room, api.OK)
		held(t, l, 0, c.room)
	}
}

// P4.1, R2: ledgers don't touch one another.
func TestLedgersStandApart(t *testing.T) {
	one, two := New(10), New(20)
	charge(t, one, 10, api.OK)
	held(t, two, 0, 0)
	charge(t, two, 20, api.OK)
	release(t, two, 5, api.OK)
	held(t, one, 10, 10)
	held(t, two, 15, 20)
	charge(t, one, 1, api.ErrOverBudget)
}

// P4.2: just to the budget, and 1 beyond it, from each amount that is held.
func TestChargeUpToTheBudget(t *testing.T) {
	for _, budget := range []int{0, 1, 2, 3, 100, top - 1, top} {
		for _, first := range []int{0, 1, budget / 2, budget - 1, budget} {
			if first < 0 || first > budget {
				continue
			}
			l := New(budget)
			charge(t, l, first, api.OK)
			charge(t, l, budget-first+1, api.ErrOverBudget)
			held(t, l, first, first)
			charge(t, l, budget-first, api.OK)
			held(t, l, budget, budget)
			charge(t, l, 1, api.ErrOverBudget)
			held(t, l, budget, budget)
		}
	}
}

// P4.2, R7: sums that would wrap round in an int, or in 32 bits, are above the budget all the same.
func TestChargeOfGreatNumbers(t *testing.T) {
	for _, budget := range []int{0, 10, top} {
		for _, first := range []int{0, 1, 6} {
			if first > budget {
				continue
			}
			l := New(budget)
			charge(t, l, first, api.OK)
			for _, n := range []int{math.MaxInt, math.MaxInt - 1, math.MaxInt - top, 1 << 62, 1<<32 - 1, 1 << 32, 1<<32 + 1, 1 << 31, top + 1} {
				charge(t, l, n, api.ErrOverBudget)
				held(t, l, first, first)
			}
		}
	}
}

// P4.2: below 0 is ErrArg, of a ledger that is full too.
func TestChargeBelowNone(t *testing.T) {
	for _, first := range []int{0, 4, 10} {
		l := New(10)
		charge(t, l, first, api.OK)
		for _, n := range []int{-1, -2, -first - 1, -10, -top, -1 << 32, math.MinInt + 1, math.MinInt} {
			charge(t, l, n, api.ErrArg)
			held(t, l, first, first)
		}
	}
}

// P4.3: all that is held, and 1 more.
func TestReleaseDownToNone(t *testing.T) {
	for _, first := range []int{0, 1, 2, 100, top - 1, top} {
		l := New(top)
		charge(t, l, first, api.OK)
		release(t, l, first+1, api.ErrArg)
		release(t, l, math.MaxInt, api.ErrArg)
		release(t, l, 1<<32+1, api.ErrArg)
		held(t, l, first, first)
		release(t, l, 0, api.OK)
		held(t, l, first, first)
		release(t, l, first, api.OK)
		held(t, l, 0, first)
		release(t, l, 1, api.ErrArg)
		release(t, l, 0, api.OK)
		held(t, l, 0, first)
	}
}

// P4.3
func TestReleaseBelowNone(t *testing.T) {
	for _, first := range []int{0, 4, 10} {
		l := New(10)
		charge(t, l, first, api.OK)
		for _, n := range []int{-1, -2, -10, -top, -1 << 32, math.MinInt + 1, math.MinInt} {
			release(t, l, n, api.ErrArg)
			held(t, l, first, first)
		}
	}
}

// P4.3: what was ever charged doesn't count, only what is held.
func TestReleaseOfWhatWentBack(t *testing.T) {
	l := New(10)
	charge(t, l, 8, api.OK)
	release(t, l, 5, api.OK)
	release(t, l, 4, api.ErrArg)
	release(t, l, 8, api.ErrArg)
	held(t, l, 3, 8)
	release(t, l, 3, api.OK)
	held(t, l, 0, 8)
}

// P4.4: behind releases and behind charges that were refused.
func TestTheMost(t *testing.T) {
	l := New(100)
	charge(t, l, 40, api.OK)
	held(t, l, 40, 40)
	release(t, l, 30, api.OK)
	held(t, l, 10, 40)
	charge(t, l, 91, api.ErrOverBudget)
	held(t, l, 10, 40)
	charge(t, l, 29, api.OK)
	held(t, l, 39, 40)
	charge(t, l, 1, api.OK)
	held(t, l, 40, 40)
	charge(t, l, 1, api.OK)
	held(t, l, 41, 41)
	release(t, l, 42, api.ErrArg)
	held(t, l, 41, 41)
	release(t, l, 41, api.OK)
	held(t, l, 0, 41)
}

// P4.4: asking changes nothing.
func TestHeldChangesNothing(t *testing.T) {
	l := New(10)
	charge(t, l, 6, api.OK)
	release(t, l, 2, api.OK)
	for range 5 {
		held(t, l, 4, 6)
	}
	charge(t, l, 6, api.OK)
	release(t, l, 10, api.OK)
	held(t, l, 0, 10)
}

// P4.5: filled and emptied several times, at once and bit by bit.
func TestFilledAndEmptied(t *testing.T) {
	for _, budget := range []int{1, 7, top} {
		l := New(budget)
		for range 100 {
			charge(t, l, budget, api.OK)
			charge(t, l, 1, api.ErrOverBudget)
			held(t, l, budget, budget)
			release(t, l, budget, api.OK)
			release(t, l, 1, api.ErrArg)
			held(t, l, 0, budget)
		}
	}
	l := New(9)
	for range 3 {
		for range 9 {
			charge(t, l, 1, api.OK)
		}
		held(t, l, 9, 9)
		charge(t, l, 1, api.ErrOverBudget)
		for range 9 {
			release(t, l, 1, api.OK)
		}
		held(t, l, 0, 9)
		release(t, l, 1, api.ErrArg)
	}
}

// P4.2 to P4.5: whatever is done, in whatever order.
func TestAgainstTheModel(t *testing.T) {
	c := rand.New(rand.NewSource(4))
	far := []int{math.MinInt, math.MinInt + 1, -1, 0, 1, top - 1, top, top + 1, 1<<32 - 1, 1 << 32, math.MaxInt - 1, math.MaxInt}
	budgets := append([]int{2, 3, 10, 100, 1000, 1 << 20}, far...)
	for range 3000 {
		budget := budgets[c.Intn(len(budgets))]
		l, m := New(budget), modelOf(budget)
		for range 60 {
			n := c.Intn(int(m.budget.Int64())+2) - 1
			if c.Intn(2) == 0 {
				n /= 4
			}
			if c.Intn(8) == 0 {
				n = far[c.Intn(len(far))]
			}
			if c.Intn(2) == 0 {
				charge(t, l, n, m.charge(n))
			} else {
				release(t, l, n, m.release(n))
			}
			held(t, l, int(m.now.Int64()), int(m.most.Int64()))
		}
	}
}

// P4.6: what is held at the end is what was let in less what went back; each goroutine counts its own.
func TestManyChargeAndRelease(t *testing.T) {
	const many, rounds, budget = 16, 20000, 200
	l := New(budget)
	in, back := make([]int, many), make([]int, many)
	together(many, func(k int) {
		c := rand.New(rand.NewSource(int64(k)))
		for range rounds {
			n := c.Intn(40)
			if c.Intn(2) == 0 {
				if l.Charge(n) == api.OK {
					in[k] += n
				}
			} else if l.Release(n) == api.OK {
				back[k] += n
			}
		}
	})
	now, most := l.Held()
	if now != sum(in)-sum(back) || now < 0 || now > budget {
		t.Errorf("held %d; let in %d, gone back %d", now, sum(in), sum(back))
	}
	if most < now || most > budget {
		t.Errorf("most %d of %d, with %d held", most, budget, now)
	}
}

// P4.6: of many that charge at a time just as much is let in as there is room, and each bit of it is counted.
func TestManyFillUp(t *testing.T) {
	const many, budget = 16, 20000
	l := New(budget)
	in, back := make([]int, many), make([]int, many)
	for range 3 {
		together(many, func(k int) {
			for l.Charge(1) == api.OK {
				in[k]++
			}
		})
		held(t, l, budget, budget)
		together(many, func(k int) {
			for l.Release(1) == api.OK {
				back[k]++
			}
		})
		held(t, l, 0, budget)
	}
	if sum(in) != 3*budget || sum(back) != 3*budget {
		t.Errorf("let in %d, gone back %d; want %d", sum(in), sum(back), 3*budget)
	}
}

// P4.4, P4.6: the most is just what all held at a time, though none of them asked meanwhile.
func TestTheMostOfMany(t *testing.T) {
	const many, each = 16, 5000
	l := New(top)
	together(many, func(k int) {
		for range each {
			l.Charge(k)
		}
	})
	whole := each * many * (many - 1) / 2
	held(t, l, whole, whole)
	together(many, func(k int) {
		for range each {
			l.Release(k)
		}
	})
	held(t, l, 0, whole)
}

// P4.5, P4.6: whoever asks meanwhile sees what is held within the most, and a most that never falls, nor comes above the budget. One charges, so that nobody else raises the most in its stead, and the others do nothing but ask.
func TestManyAskMeanwhile(t *testing.T) {
	const many, budget = 6, 1 << 19
	l := New(budget)
	together(many, func(k int) {
		if k == 0 {
			for l.Charge(2) == api.OK && l.Release(1) == api.OK {
			}
			return
		}
		last := 0
		for range budget {
			now, most := l.Held()
			if now < 0 || most < now || budget < most || most < last {
				t.Errorf("Held = %d, %d, behind a most of %d", now, most, last)
				return
			}
			last = most
		}
	})
	held(t, l, budget-1, budget)
}

// P4.5, P4.6: meanwhile one's own share is always among what is held, and can be given back.
func TestManyKeepTheirShares(t *testing.T) {
	const many, rounds, budget = 12, 10000, 50
	l := New(budget)
	together(many, func(k int) {
		for i := range rounds {
			n := 1 + (i+k)%20
			if l.Charge(n) != api.OK {
				continue
			}
			now, most := l.Held()
			if e := l.Release(n); e != api.OK || now < n || most < now || budget < most {
				t.Errorf("Held = %d, %d with %d of one's own, Release = %d", now, most, n, int(e))
				return
			}
		}
	})
	if now, most := l.Held(); now != 0 || most < 20 || most > budget {
		t.Errorf("Held = %d, %d", now, most)
	}
}

// P4.6, R2: how many goroutines do it changes nothing at the end.
func TestAnyNumberOfGoroutines(t *testing.T) {
	const whole = 1 << 14
	for _, many := range []int{1, 2, 4, 8, 16, 64} {
		l := New(whole)
		together(many, func(int) {
			for range whole / many {
				if l.Charge(1) != api.OK || l.Charge(-1) != api.ErrArg || l.Charge(whole+1) != api.ErrOverBudget || l.Release(whole+1) != api.ErrArg {
					t.Error("a wrong answer")
				}
			}
		})
		held(t, l, whole, whole)
	}
}

// R1: every call of a nil ledger; ErrNil stands ahead of the other errors.
func TestNilLedger(t *testing.T) {
	var l *Ledger
	for _, n := range []int{math.MinInt, -1, 0, 1, top, top + 1, math.MaxInt} {
		charge(t, l, n, api.ErrNil)
		release(t, l, n, api.ErrNil)
		held(t, l, 0, 0)
	}
}
