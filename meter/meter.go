// Package meter is layer 1: resource meters, each with a limit, which any number of goroutines may use at once.
package meter

import "sync/atomic"

// Meter has a limit, and tells how much is used of it.
//
// All that changes stands behind one pointer: were it several numbers, another goroutine could see more used than the peak.
type Meter struct {
	limit int64
	now   atomic.Pointer[tally]
}

// tally is what a meter has counted. One that a meter's pointer has led to is never written again: others may be reading it.
type tally struct {
	used, peak, refused int64
}

// New answers a meter of which nothing is used.
func New(limit int64) *Meter {
	m := &Meter{limit: max(limit, 0)}
	m.now.Store(&tally{})
	return m
}

// Take uses n more, if that much is left.
func (m *Meter) Take(n int64) bool {
	return m.step(func(t tally) (tally, bool) { return t.take(n, m.limit) })
}

// Give uses n less, if that much is used.
func (m *Meter) Give(n int64) bool {
	return m.step(func(t tally) (tally, bool) { return t.give(n) })
}

// Used tells how much is used.
func (m *Meter) Used() int64 { return m.now.Load().used }

// Left tells how much may still be taken.
func (m *Meter) Left() int64 { return m.limit - m.now.Load().used }

// Peak tells the most that was used at any time.
func (m *Meter) Peak() int64 { return m.now.Load().peak }

// Refused tells how many calls of Take and Give were refused.
func (m *Meter) Refused() int64 { return m.now.Load().refused }

// step puts what change makes of the tally in its place, over and over till no other goroutine came between: what is answered was judged by the very tally that it replaced.
func (m *Meter) step(change func(tally) (tally, bool)) bool {
again:
	for {
		old := m.now.Load()
		next, done := change(*old)
		if !m.now.CompareAndSwap(old, &next) {
			continue again
		}
		return done
	}
}

func (t tally) take(n, limit int64) (tally, bool) {
	// what is left is told by a difference, since the sum of n and what is used may be too great for an int64
	if n < 0 || n > limit-t.used {
		return t.refuse(), false
	}
	t.used += n
	t.peak = max(t.peak, t.used)
	return t, true
}

func (t tally) give(n int64) (tally, bool) {
	if n < 0 || n > t.used {
		return t.refuse(), false
	}
	t.used -= n
	return t, true
}

func (t tally) refuse() tally {
	t.refused++
	return t
}
