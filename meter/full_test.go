package meter

import (
	"math"
	"testing"

	"haymow/api"
	"haymow/wide"
)

// These tests set the counters themselves: their end is some 2^65 calls away.

// most128 is 2^128 - 1, and below(n) is n less.
var most128 = api.Wide{Hi: math.MaxUint64, Lo: math.MaxUint64}

func below(n uint64) api.Wide { return api.Wide{Hi: math.MaxUint64, Lo: math.MaxUint64 - n} }

// P7.1

func TestACounterSaturates(t *testing.T) {
	for _, c := range []struct {
		left uint64 // how far the counter is from its end
		n    int
		want api.Wide
	}{
		{5, 4, below(1)},
		{5, 5, most128},
		{5, 6, most128},
		{5, math.MaxInt, most128},
		{1, 1, most128},
		{1, 2, most128},
		{0, 1, most128},
		{0, math.MaxInt, most128},
		{0, 0, most128},
		{0, -1, most128},
		{0, math.MinInt, most128},
		{5, -1, below(5)},
		{1<<63 - 1, math.MaxInt, most128},
		{1 << 63, math.MaxInt, below(1)},
		{1<<63 - 2, math.MaxInt, most128},
		{math.MaxUint64, 1, below(math.MaxUint64 - 1)},
	} {
		for k := range Kind(kinds) {
			m := New()
			m.steps[k] = below(c.left)
			m.Step(k, c.n)
			if got := m.Of(k); got != c.want {
				t.Errorf("kind %d, %d from the end, Step of %d: %v, not %v", k, c.left, c.n, got, c.want)
			}
			if got := m.Of(1 - k); got != (api.Wide{}) {
				t.Errorf("kind %d, %d from the end, Step of %d: %v of the other kind", k, c.left, c.n, got)
			}
			if got := m.Steps(); got != c.want {
				t.Errorf("kind %d, %d from the end, Step of %d: %v steps", k, c.left, c.n, got)
			}
		}
	}
}

func TestAFullCounterLeavesTheOtherOne(t *testing.T) {
	for k := range Kind(kinds) {
		m := New()
		m.steps[k] = below(3)
		m.Step(k, 9)
		m.Step(1-k, 6)
		m.Step(1-k, 1)
		if m.Of(k) != most128 || m.Of(1-k) != (api.Wide{Lo: 7}) || m.Steps() != most128 {
			t.Errorf("kind %d is full: %v, %v, %v steps", k, m.Of(k), m.Of(1-k), m.Steps())
		}
	}
}

func TestTheSumSaturates(t *testing.T) {
	for _, c := range []struct{ reads, writes, want api.Wide }{
		{below(7), wide.Of(6), below(1)},
		{below(7), wide.Of(7), most128},
		{below(7), wide.Of(8), most128},
		{wide.Of(6), below(7), below(1)},
		{wide.Of(7), below(7), most128},
		{wide.Of(8), below(7), most128},
		{most128, wide.Of(0), most128},
		{most128, wide.Of(1), most128},
		{wide.Of(0), most128, most128},
		{wide.Of(1), most128, most128},
		{most128, most128, most128},
		{api.Wide{Hi: 1 << 63}, api.Wide{Hi: 1 << 63}, most128},
		{api.Wide{Hi: 1 << 63}, api.Wide{Hi: 1<<63 - 1, Lo: math.MaxUint64}, most128},
		{api.Wide{Hi: 1 << 63}, api.Wide{Hi: 1<<63 - 1, Lo: math.MaxUint64 - 1}, below(1)},
	} {
		m := New()
		m.steps[Reads], m.steps[Writes] = c.reads, c.writes
		if got := m.Steps(); got != c.want {
			t.Errorf("%v and %v: %v steps, not %v", c.reads, c.writes, got, c.want)
		}
		if m.Of(Reads) != c.reads || m.Of(Writes) != c.writes {
			t.Errorf("%v and %v: Of: %v and %v", c.reads, c.writes, m.Of(Reads), m.Of(Writes))
		}
	}
}

func TestSinceOfASaturatedSum(t *testing.T) {
	m := New()
	m.steps[Reads], m.steps[Writes] = below(7), most128
	for _, c := range []struct{ steps, want api.Wide }{
		{wide.Of(0), most128},
		{wide.Of(1), below(1)},
		{below(7), wide.Of(7)},
		{below(1), wide.Of(1)},
		{most128, wide.Of(0)},
	} {
		if got := m.Since(c.steps); got != c.want {
			t.Errorf("Since(%v): %v, not %v", c.steps, got, c.want)
		}
	}
}

// P7.3

func TestStepsDoNotDecreaseAtTheEnd(t *testing.T) {
	m := New()
	m.steps[Reads], m.steps[Writes] = api.Wide{Hi: 1<<63 - 1, Lo: math.MaxUint64 - 30}, api.Wide{Hi: 1 << 63}
	for i := range 100 {
		before := m.Steps()
		m.Step(Kind(i%kinds), 1)
		if got := m.Steps(); wide.Less(got, before) || i < 30 && got == before {
			t.Fatalf("%v steps, and then %v", before, got)
		}
	}
	if got := m.Steps(); got != most128 {
		t.Errorf("%v steps", got)
	}
}
