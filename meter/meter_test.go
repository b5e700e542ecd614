package meter

import (
	"math"
	"strconv"
	"sync"
	"sync/atomic"
	"testing"
)

// want is what a meter must tell.
type want struct {
	used, left, peak, refused int64
}

func check(t *testing.T, name string, m *Meter, w want) {
	t.Helper()
	got := want{m.Used(), m.Left(), m.Peak(), m.Refused()}
	if got != w {
		t.Errorf("%s: got %+v, want %+v", name, got, w)
	}
}

// step is a call of Take, or of Give, what it must answer and what the meter must tell then.
type step struct {
	give bool
	n    int64
	ok   bool
	then want
}

func run(t *testing.T, limit int64, steps []step) {
	t.Helper()
	m := New(limit)
	for i, s := range steps {
		name := "limit " + strconv.FormatInt(limit, 10) + ", step " + strconv.Itoa(i)
		call := m.Take
		if s.give {
			call = m.Give
		}
		if ok := call(s.n); ok != s.ok {
			t.Errorf("%s: got %v, want %v", name, ok, s.ok)
		}
		check(t, name, m, s.then)
	}
}

// P1.1: New

func TestNew(t *testing.T) {
	for _, c := range []struct{ limit, left int64 }{
		{math.MinInt64, 0}, {-5, 0}, {-1, 0}, {0, 0}, {1, 1}, {5, 5}, {math.MaxInt64, math.MaxInt64},
	} {
		check(t, "New("+strconv.FormatInt(c.limit, 10)+")", New(c.limit), want{0, c.left, 0, 0})
	}
}

func TestMetersStandAlone(t *testing.T) {
	a, b := New(5), New(5)
	a.Take(3)
	a.Take(3)
	check(t, "the one", a, want{3, 2, 3, 1})
	check(t, "the other", b, want{0, 5, 0, 0})
}

// P1.1: Take and Give

func TestExample(t *testing.T) {
	run(t, 5, []step{
		{false, 3, true, want{3, 2, 3, 0}},
		{false, 3, false, want{3, 2, 3, 1}},
	})
}

func TestTake(t *testing.T) {
	run(t, 10, []step{
		{false, 0, true, want{0, 10, 0, 0}},
		{false, -1, false, want{0, 10, 0, 1}},
		{false, math.MinInt64, false, want{0, 10, 0, 2}},
		{false, 11, false, want{0, 10, 0, 3}},
		{false, math.MaxInt64, false, want{0, 10, 0, 4}},
		{false, 4, true, want{4, 6, 4, 4}},
		{false, 7, false, want{4, 6, 4, 5}},
		{false, math.MaxInt64, false, want{4, 6, 4, 6}},
		{false, 6, true, want{10, 0, 10, 6}},
		{false, 1, false, want{10, 0, 10, 7}},
		{false, 0, true, want{10, 0, 10, 7}},
		{false, -1, false, want{10, 0, 10, 8}},
		{false, math.MinInt64, false, want{10, 0, 10, 9}},
	})
}

func TestGive(t *testing.T) {
	run(t, 10, []step{
		{true, 0, true, want{0, 10, 0, 0}},
		{true, 1, false, want{0, 10, 0, 1}},
		{false, 8, true, want{8, 2, 8, 1}},
		{true, -1, false, want{8, 2, 8, 2}},
		{true, math.MinInt64, false, want{8, 2, 8, 3}},
		{true, 9, false, want{8, 2, 8, 4}},
		{true, math.MaxInt64, false, want{8, 2, 8, 5}},
		{true, 3, true, want{5, 5, 8, 5}},
		{true, 6, false, want{5, 5, 8, 6}},
		{true, 5, true, want{0, 10, 8, 6}},
		{true, 0, true, want{0, 10, 8, 6}},
		{true, 1, false, want{0, 10, 8, 7}},
	})
}

func TestLimitOfNothing(t *testing.T) {
	for _, limit := range []int64{math.MinInt64, -1, 0} {
		run(t, limit, []step{
			{false, 0, true, want{0, 0, 0, 0}},
			{true, 0, true, want{0, 0, 0, 0}},
			{false, 1, false, want{0, 0, 0, 1}},
			{true, 1, false, want{0, 0, 0, 2}},
			{false, -1, false, want{0, 0, 0, 3}},
			{true, -1, false, want{0, 0, 0, 4}},
			{false, math.MaxInt64, false, want{0, 0, 0, 5}},
			{false, math.MinInt64, false, want{0, 0, 0, 6}},
		})
	}
}

func TestGreatestLimit(t *testing.T) {
	const most = math.MaxInt64
	run(t, most, []step{
		{false, most - 1, true, want{most - 1, 1, most - 1, 0}},
		{false, 2, false, want{most - 1, 1, most - 1, 1}},
		{false, most, false, want{most - 1, 1, most - 1, 2}},
		{false, 1, true, want{most, 0, most, 2}},
		{false, most, false, want{most, 0, most, 3}},
		{true, math.MinInt64, false, want{most, 0, most, 4}},
		{true, most, true, want{0, most, most, 4}},
		{false, most, true, want{most, 0, most, 4}},
	})
}

// P1.2: what is told

func TestPeakStays(t *testing.T) {
	run(t, 10, []step{
		{false, 4, true, want{4, 6, 4, 0}},
		{true, 3, true, want{1, 9, 4, 0}},
		{false, 2, true, want{3, 7, 4, 0}}, // below the peak
		{false, 1, true, want{4, 6, 4, 0}}, // at it
		{false, 1, true, want{5, 5, 5, 0}}, // above it
		{false, 6, false, want{5, 5, 5, 1}},
		{true, 5, true, want{0, 10, 5, 1}},
	})
}

func TestTellingChangesNothing(t *testing.T) {
	m := New(7)
	m.Take(3)
	m.Take(9)
	for range 3 {
		check(t, "told again", m, want{3, 4, 3, 1})
	}
}

// TestEverySequence holds all short runs of calls against a count that is kept here.
func TestEverySequence(t *testing.T) {
	amounts := []int64{math.MinInt64, -1, 0, 1, 2, 3, math.MaxInt64 - 1, math.MaxInt64}
	for _, limit := range []int64{-1, 0, 1, 2, 3, math.MaxInt64} {
		sequences(t, limit, amounts, nil, 3)
	}
}

func sequences(t *testing.T, limit int64, amounts []int64, ahead []step, more int) {
	if more == 0 {
		run(t, limit, ahead)
		return
	}
	now := want{left: max(limit, 0)}
	if len(ahead) > 0 {
		now = ahead[len(ahead)-1].then
	}
	for _, n := range amounts {
		for _, give := range []bool{false, true} {
			next := append(ahead[:len(ahead):len(ahead)], expected(now, give, n))
			sequences(t, limit, amounts, next, more-1)
		}
	}
}

func expected(now want, give bool, n int64) step {
	room := now.left
	if give {
		room = now.used
	}
	if n < 0 || n > room {
		now.refused++
		return step{give, n, false, now}
	}
	if give {
		now.used, now.left = now.used-n, now.left+n
	} else {
		now.used, now.left = now.used+n, now.left-n
	}
	now.peak = max(now.peak, now.used)
	return step{give, n, true, now}
}

// P1.3: many goroutines at once

const (
	workers = 32
	rounds  = 2000
)

// together runs f in many goroutines at once, and waits for all of them.
func together(f func(worker int)) {
	var all sync.WaitGroup
	start := make(chan struct{})
	for w := range workers {
		all.Go(func() {
			<-start
			f(w)
		})
	}
	close(start)
	all.Wait()
}

func TestManyTakeToTheLimit(t *testing.T) {
	const limit = workers*rounds/2 + 1
	m := New(limit)
	var taken atomic.Int64
	together(func(int) {
		for range rounds {
			if m.Take(1) {
				taken.Add(1)
			}
		}
	})
	if taken.Load() != limit {
		t.Errorf("taken: got %d, want %d", taken.Load(), limit)
	}
	check(t, "all taken", m, want{limit, 0, limit, workers*rounds - limit})
}

func TestManyGiveToNothing(t *testing.T) {
	const full = workers*rounds/2 + 1
	m := New(full)
	m.Take(full)
	var given atomic.Int64
	together(func(int) {
		for range rounds {
			if m.Give(1) {
				given.Add(1)
			}
		}
	})
	if given.Load() != full {
		t.Errorf("given: got %d, want %d", given.Load(), full)
	}
	check(t, "all given", m, want{0, full, full, workers*rounds - full})
}

func TestManyTakeAndGive(t *testing.T) {
	const limit = 40
	m := New(limit)
	var balance, refused atomic.Int64
	together(func(w int) {
		for i := range rounds {
			n := int64((w*7+i)%9 - 1) // from -1 on, which is refused always
			if m.Take(n) {
				balance.Add(n)
			} else {
				refused.Add(1)
			}
			n = int64((w*5+i)%7 - 1)
			if m.Give(n) {
				balance.Add(-n)
			} else {
				refused.Add(1)
			}
		}
	})
	if m.Used() != balance.Load() || m.Left() != limit-balance.Load() {
		t.Errorf("used %d, left %d: want %d used", m.Used(), m.Left(), balance.Load())
	}
	if m.Refused() != refused.Load() {
		t.Errorf("refused: got %d, want %d", m.Refused(), refused.Load())
	}
	if m.Peak() > limit || m.Peak() < m.Used() {
		t.Errorf("peak %d", m.Peak())
	}
}

// TestManyPeaks lets nothing be given back, so that the peak must be the last amount of all, whoever brought it there.
func TestManyPeaks(t *testing.T) {
	for range 50 {
		m := New(math.MaxInt64)
		together(func(w int) {
			for range 20 {
				m.Take(int64(w))
			}
		})
		const sum = 20 * workers * (workers - 1) / 2
		check(t, "peaks", m, want{sum, math.MaxInt64 - sum, sum, 0})
	}
}

// TestManyWatch looks at a meter while others change it: what is told must hold at every moment, not in the end alone.
func TestManyWatch(t *testing.T) {
	const limit = 10
	m := New(limit)
	together(func(w int) {
		if w%2 == 1 {
			watch(t, m, limit)
			return
		}
		for i := range rounds {
			if n := int64(i % 5); m.Take(n) {
				m.Give(n)
			}
		}
	})
	if m.Used() != 0 {
		t.Errorf("used in the end: %d", m.Used())
	}
}

// TestManyWatchRising lets each taking raise the peak, so that a peak that came later than what is used would be seen.
func TestManyWatchRising(t *testing.T) {
	for range 20 {
		m := New(math.MaxInt64)
		together(func(w int) {
			if w%2 == 1 {
				watch(t, m, math.MaxInt64)
				return
			}
			for range rounds {
				m.Take(1)
			}
		})
	}
}

func watch(t *testing.T, m *Meter, limit int64) {
	var peak, refused int64
	for range rounds {
		used, left := m.Used(), m.Left()
		nextPeak, nextRefused := m.Peak(), m.Refused()
		if used < 0 || used > limit || left < 0 || left > limit {
			t.Errorf("used %d, left %d of %d", used, left, limit)
			return
		}
		if nextPeak < used || nextPeak < limit-left || nextPeak > limit || nextPeak < peak {
			t.Errorf("peak %d after %d, used %d, left %d", nextPeak, peak, used, left)
			return
		}
		if nextRefused < refused {
			t.Errorf("refused %d after %d", nextRefused, refused)
			return
		}
		peak, refused = nextPeak, nextRefused
	}
}
