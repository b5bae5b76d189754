package meter_test

import (
	"math"
	"math/big"
	"reflect"
	"slices"
	"testing"

	"haymow/api"
	"haymow/meter"
)

// full is the chapter's bound of the words in use.
const full = 1 << 48

// The calls have these signatures exactly, and the kinds these numbers.
var (
	_ func() *meter.Meter                     = meter.New
	_ func(*meter.Meter, meter.Kind, int)     = (*meter.Meter).Step
	_ func(*meter.Meter, meter.Kind) api.Wide = (*meter.Meter).Of
	_ func(*meter.Meter) api.Wide             = (*meter.Meter).Steps
	_ func(*meter.Meter, api.Wide) api.Wide   = (*meter.Meter).Since
	_ func(*meter.Meter, int) api.Errno       = (*meter.Meter).Hold
	_ func(*meter.Meter, int) api.Errno       = (*meter.Meter).Free
	_ func(*meter.Meter) int                  = (*meter.Meter).Held
	_ func(*meter.Meter) int                  = (*meter.Meter).High
	_ [0]struct{}                             = [meter.Reads]struct{}{}
	_ [1]struct{}                             = [meter.Writes]struct{}{}
)

// state is all that a Meter tells.
type state struct {
	reads, writes, steps api.Wide
	held, high           int
}

func look(m *meter.Meter) state {
	return state{m.Of(meter.Reads), m.Of(meter.Writes), m.Steps(), m.Held(), m.High()}
}

// numbers are telling ones, about both ends of an int, each power of 2 and the
// bound of the words in use.
func numbers() []int {
	out := []int{math.MinInt, math.MinInt + 1, -full - 1, -full, 1 - full, math.MaxInt - full, math.MaxInt - full + 1}
	for n := -20; n <= 20; n++ {
		out = append(out, n)
	}
	for bit := 5; bit < 63; bit++ {
		out = append(out, 1<<bit-1, 1<<bit, 1<<bit+1, -1<<bit)
	}
	return append(out, math.MaxInt-1, math.MaxInt)
}

// strangers are kinds that do not exist, of which some are one that does when
// their upper bits are dropped.
func strangers() []meter.Kind {
	out := []meter.Kind{-1, -2, -3, 2, 3, 4, 5, 9, 100, math.MaxInt, math.MaxInt - 1, math.MinInt, math.MinInt + 1}
	for bit := 2; bit < 63; bit++ {
		out = append(out, 1<<bit, 1<<bit+1, -1<<bit, -1<<bit+1)
	}
	return out
}

// wides are telling numbers of 128 bits.
func wides() []api.Wide {
	var out []api.Wide
	telling := []uint64{0, 1, 2, 3, 4, 5, 6, 7, 8, 1<<32 - 1, 1 << 32, 1<<63 - 1, 1 << 63, 1<<63 + 1, math.MaxUint64 - 1, math.MaxUint64}
	for _, hi := range telling {
		for _, lo := range telling {
			out = append(out, api.Wide{Hi: hi, Lo: lo})
		}
	}
	return out
}

// large returns a as an integer of any size.
func large(a api.Wide) *big.Int {
	out := new(big.Int).SetUint64(a.Hi)
	return out.Or(out.Lsh(out, 64), new(big.Int).SetUint64(a.Lo))
}

// model counts as a Meter should, in integers of any size and without a bound
// of the steps, which no test comes near.
type model struct {
	steps      [2]*big.Int
	held, high int64
}

func newModel() *model { return &model{steps: [2]*big.Int{new(big.Int), new(big.Int)}} }

func (m *model) step(k meter.Kind, n int) {
	if n >= 1 && (k == 0 || k == 1) {
		m.steps[k].Add(m.steps[k], big.NewInt(int64(n)))
	}
}

func (m *model) hold(n int) api.Errno {
	if n < 0 {
		return api.ErrArg
	}
	sum := new(big.Int).Add(big.NewInt(m.held), big.NewInt(int64(n)))
	if sum.Cmp(big.NewInt(full)) > 0 {
		return api.ErrFull
	}
	m.held = sum.Int64()
	if m.held > m.high {
		m.high = m.held
	}
	return api.OK
}

func (m *model) free(n int) api.Errno {
	if n < 0 {
		return api.ErrArg
	}
	left := new(big.Int).Sub(big.NewInt(m.held), big.NewInt(int64(n)))
	if left.Sign() < 0 {
		return api.ErrNone
	}
	m.held = left.Int64()
	return api.OK
}

// check holds all that a Meter tells against the model.
func (m *model) check(t *testing.T, got *meter.Meter) {
	t.Helper()
	for k, want := range m.steps {
		if of := got.Of(meter.Kind(k)); large(of).Cmp(want) != 0 {
			t.Fatalf("Of(%d): %v, not %v", k, of, want)
		}
	}
	sum := new(big.Int).Add(m.steps[0], m.steps[1])
	if large(got.Steps()).Cmp(sum) != 0 {
		t.Fatalf("Steps: %v, not %v", got.Steps(), sum)
	}
	if int64(got.Held()) != m.held || int64(got.High()) != m.high {
		t.Fatalf("Held, High: %d, %d, not %d, %d", got.Held(), got.High(), m.held, m.high)
	}
}

// noise goes through numbers that follow no short rule, the same ones each time.
type noise uint64

func (s *noise) below(n int) int {
	*s = *s*6364136223846793005 + 1442695040888963407
	return int(uint64(*s)>>33) % n
}

// P7.1

func TestNewCountsNothing(t *testing.T) {
	m := meter.New()
	if m == nil {
		t.Fatal("New: nil")
	}
	if got := look(m); got != (state{}) {
		t.Errorf("New: %v", got)
	}
	for _, a := range wides() {
		if got := m.Since(a); got != (api.Wide{}) {
			t.Errorf("New, Since(%v): %v", a, got)
		}
	}
}

func TestKnownSteps(t *testing.T) {
	type step struct {
		k meter.Kind
		n int
	}
	const r, w = meter.Reads, meter.Writes
	for _, c := range []struct {
		name                 string
		steps                []step
		reads, writes, total api.Wide
	}{
		{"none", nil, api.Wide{}, api.Wide{}, api.Wide{}},
		{"the chapter's example", []step{{r, 3}, {w, 4}}, api.Wide{Lo: 3}, api.Wide{Lo: 4}, api.Wide{Lo: 7}},
		{"one read", []step{{r, 1}}, api.Wide{Lo: 1}, api.Wide{}, api.Wide{Lo: 1}},
		{"one write", []step{{w, 1}}, api.Wide{}, api.Wide{Lo: 1}, api.Wide{Lo: 1}},
		{"some of both", []step{{r, 1}, {w, 10}, {r, 2}, {w, 20}, {r, 3}}, api.Wide{Lo: 6}, api.Wide{Lo: 30}, api.Wide{Lo: 36}},
		{"none of either", []step{{r, 0}, {w, 0}}, api.Wide{}, api.Wide{}, api.Wide{}},
		{"fewer than none", []step{{r, 5}, {w, 6}, {r, -1}, {w, -1}, {r, -5}, {w, math.MinInt}}, api.Wide{Lo: 5}, api.Wide{Lo: 6}, api.Wide{Lo: 11}},
		{"other kinds", []step{{r, 5}, {w, 6}, {2, 1}, {-1, 1}, {9, 4}, {math.MinInt, 1}, {math.MaxInt, 1}}, api.Wide{Lo: 5}, api.Wide{Lo: 6}, api.Wide{Lo: 11}},
		{"other kinds and fewer than none", []step{{2, -1}, {-1, 0}}, api.Wide{}, api.Wide{}, api.Wide{}},
		{"the most of an int", []step{{r, math.MaxInt}}, api.Wide{Lo: 1<<63 - 1}, api.Wide{}, api.Wide{Lo: 1<<63 - 1}},
		{"more than an int", []step{{r, math.MaxInt}, {r, 1}}, api.Wide{Lo: 1 << 63}, api.Wide{}, api.Wide{Lo: 1 << 63}},
		{"the most of a word", []step{{w, math.MaxInt}, {w, math.MaxInt}, {w, 1}}, api.Wide{}, api.Wide{Lo: math.MaxUint64}, api.Wide{Lo: math.MaxUint64}},
		{"more than a word", []step{{w, math.MaxInt}, {w, math.MaxInt}, {w, 2}}, api.Wide{}, api.Wide{Hi: 1}, api.Wide{Hi: 1}},
		{"more than a word together", []step{{r, math.MaxInt}, {w, math.MaxInt}, {r, 3}}, api.Wide{Lo: 1<<63 + 2}, api.Wide{Lo: 1<<63 - 1}, api.Wide{Hi: 1, Lo: 1}},
		{"more than a word each", []step{{r, math.MaxInt}, {w, math.MaxInt}, {r, math.MaxInt}, {w, math.MaxInt}, {r, 5}, {w, 7}}, api.Wide{Hi: 1, Lo: 3}, api.Wide{Hi: 1, Lo: 5}, api.Wide{Hi: 2, Lo: 8}},
	} {
		m := meter.New()
		for _, s := range c.steps {
			m.Step(s.k, s.n)
		}
		if got, want := look(m), (state{c.reads, c.writes, c.total, 0, 0}); got != want {
			t.Errorf("%s: %v, not %v", c.name, got, want)
		}
	}
}

// Each step is added on its own, and to the counter of its kind alone.
func TestStepAddsToItsKind(t *testing.T) {
	for _, first := range []int{0, 1, 7, math.MaxInt} {
		for _, n := range numbers() {
			for k := range meter.Kind(2) {
				m, want := meter.New(), newModel()
				m.Step(k, first)
				want.step(k, first)
				m.Step(1-k, 5)
				want.step(1-k, 5)
				m.Step(k, n)
				want.step(k, n)
				want.check(t, m)
			}
		}
	}
}

func TestKindsThatDoNotExist(t *testing.T) {
	m := meter.New()
	m.Step(meter.Reads, 3)
	m.Step(meter.Writes, 4)
	m.Hold(5)
	before := look(m)
	for _, k := range strangers() {
		for _, n := range []int{math.MinInt, -1, 0, 1, 2, math.MaxInt} {
			m.Step(k, n)
			if got := look(m); got != before {
				t.Fatalf("Step(%d, %d): %v, not %v", k, n, got, before)
			}
		}
		if got := m.Of(k); got != (api.Wide{}) {
			t.Errorf("Of(%d): %v", k, got)
		}
	}
}

func TestFewerThanOneStep(t *testing.T) {
	m := meter.New()
	m.Step(meter.Reads, 3)
	m.Step(meter.Writes, 4)
	before := look(m)
	for _, n := range numbers() {
		if n >= 1 {
			continue
		}
		for _, k := range []meter.Kind{meter.Reads, meter.Writes} {
			m.Step(k, n)
			if got := look(m); got != before {
				t.Fatalf("Step(%d, %d): %v, not %v", k, n, got, before)
			}
		}
	}
}

func TestSince(t *testing.T) {
	m := meter.New()
	m.Step(meter.Reads, 3)
	m.Step(meter.Writes, 4)
	for n, want := range []uint64{7, 6, 5, 4, 3, 2, 1, 0, 0, 0} {
		if got := m.Since(api.Wide{Lo: uint64(n)}); got != (api.Wide{Lo: want}) {
			t.Errorf("7 steps, Since(%d): %v, not %d", n, got, want)
		}
	}
	if got := m.Since(api.Wide{Hi: 1}); got != (api.Wide{}) {
		t.Errorf("7 steps, Since(2^64): %v", got)
	}
	// What was counted between two moments.
	start := m.Steps()
	m.Step(meter.Writes, 10)
	m.Hold(100)
	m.Step(meter.Reads, 20)
	if got := m.Since(start); got != (api.Wide{Lo: 30}) {
		t.Errorf("30 steps behind 7, Since: %v", got)
	}
	// A difference that borrows from the upper half.
	for range 2 {
		m.Step(meter.Reads, math.MaxInt)
		m.Step(meter.Writes, math.MaxInt)
	}
	if got := m.Since(api.Wide{Hi: 1, Lo: 34}); got != (api.Wide{Lo: math.MaxUint64}) {
		t.Errorf("2^65 + 33 steps, Since(2^64 + 34): %v", got)
	}
}

func TestSinceAllNumbers(t *testing.T) {
	for _, n := range []int{0, 1, 7, math.MaxInt} {
		for times := range 6 {
			m := meter.New()
			for range times {
				m.Step(meter.Reads, n)
				m.Step(meter.Writes, n/2)
			}
			total := look(m)
			for _, a := range append(wides(), m.Steps()) {
				want := new(big.Int).Sub(large(m.Steps()), large(a))
				if want.Sign() < 0 {
					want.SetInt64(0)
				}
				if got := m.Since(a); large(got).Cmp(want) != 0 {
					t.Fatalf("%v steps, Since(%v): %v, not %v", m.Steps(), a, got, want)
				}
			}
			if got := look(m); got != total {
				t.Fatalf("Since changed %v to %v", total, got)
			}
		}
	}
}

// P7.2

func TestKnownWords(t *testing.T) {
	const hold, free = true, false
	type call struct {
		hold       bool
		n          int
		e          api.Errno
		held, high int
	}
	for _, c := range []struct {
		name  string
		calls []call
	}{
		{"the chapter's example", []call{{hold, 5, api.OK, 5, 5}, {free, 5, api.OK, 0, 5}, {hold, 2, api.OK, 2, 5}}},
		{"a greater maximum", []call{{hold, 5, api.OK, 5, 5}, {free, 2, api.OK, 3, 5}, {hold, 2, api.OK, 5, 5}, {hold, 1, api.OK, 6, 6}, {free, 6, api.OK, 0, 6}, {hold, 7, api.OK, 7, 7}}},
		{"none", []call{{hold, 0, api.OK, 0, 0}, {free, 0, api.OK, 0, 0}, {hold, 1, api.OK, 1, 1}, {hold, 0, api.OK, 1, 1}, {free, 0, api.OK, 1, 1}}},
		{"negative", []call{{hold, -1, api.ErrArg, 0, 0}, {free, -1, api.ErrArg, 0, 0}, {hold, 3, api.OK, 3, 3}, {hold, -1, api.ErrArg, 3, 3}, {free, -1, api.ErrArg, 3, 3}, {hold, math.MinInt, api.ErrArg, 3, 3}, {free, math.MinInt, api.ErrArg, 3, 3}}},
		{"none are in use", []call{{free, 1, api.ErrNone, 0, 0}, {free, math.MaxInt, api.ErrNone, 0, 0}, {free, full, api.ErrNone, 0, 0}}},
		{"fewer are in use", []call{{hold, 3, api.OK, 3, 3}, {free, 4, api.ErrNone, 3, 3}, {free, math.MaxInt, api.ErrNone, 3, 3}, {free, 3, api.OK, 0, 3}, {free, 1, api.ErrNone, 0, 3}}},
		{"the most at once", []call{{hold, full, api.OK, full, full}, {hold, 1, api.ErrFull, full, full}, {hold, 0, api.OK, full, full}, {hold, -1, api.ErrArg, full, full}, {free, full, api.OK, 0, full}, {hold, 1, api.OK, 1, full}}},
		{"the most by parts", []call{{hold, full - 1, api.OK, full - 1, full - 1}, {hold, 2, api.ErrFull, full - 1, full - 1}, {hold, 1, api.OK, full, full}, {hold, 1, api.ErrFull, full, full}, {free, 1, api.OK, full - 1, full}, {hold, 2, api.ErrFull, full - 1, full}, {hold, 1, api.OK, full, full}}},
		{"more than the most", []call{{hold, full + 1, api.ErrFull, 0, 0}, {hold, math.MaxInt, api.ErrFull, 0, 0}, {hold, 2, api.OK, 2, 2}, {hold, math.MaxInt, api.ErrFull, 2, 2}, {hold, math.MaxInt - 1, api.ErrFull, 2, 2}, {hold, full - 1, api.ErrFull, 2, 2}, {hold, full - 2, api.OK, full, full}, {hold, math.MaxInt, api.ErrFull, full, full}, {hold, math.MaxInt - full, api.ErrFull, full, full}, {hold, math.MaxInt - full + 1, api.ErrFull, full, full}}},
		{"more than are in use, of the most", []call{{hold, full, api.OK, full, full}, {free, full + 1, api.ErrNone, full, full}, {free, math.MaxInt, api.ErrNone, full, full}, {free, full - 1, api.OK, 1, full}, {free, 2, api.ErrNone, 1, full}}},
	} {
		m := meter.New()
		for i, x := range c.calls {
			do := m.Free
			if x.hold {
				do = m.Hold
			}
			if e := do(x.n); e != x.e || m.Held() != x.held || m.High() != x.high {
				t.Errorf("%s, call %d: error %d, Held %d, High %d, not %d, %d, %d", c.name, i, e, m.Held(), m.High(), x.e, x.held, x.high)
			}
		}
		if m.Steps() != (api.Wide{}) {
			t.Errorf("%s: %v steps", c.name, m.Steps())
		}
	}
}

// Hold and Free of each number, with each number of words in use and each
// maximum before it.
func TestHoldAndFreeOfAllNumbers(t *testing.T) {
	for _, held := range []int{0, 1, 2, 16, 1000, full / 2, full - 16, full - 1, full} {
		for _, more := range []int{0, 1, 5} {
			for _, n := range numbers() {
				holds, frees := meter.New(), meter.New()
				want, other := newModel(), newModel()
				for _, m := range []*meter.Meter{holds, frees} {
					m.Hold(held)
					if m.Hold(more) == api.OK {
						m.Free(more)
					}
				}
				for _, m := range []*model{want, other} {
					m.hold(held)
					if m.hold(more) == api.OK {
						m.free(more)
					}
				}
				if got, e := holds.Hold(n), want.hold(n); got != e {
					t.Fatalf("%d in use, Hold(%d): %d, not %d", held, n, got, e)
				}
				want.check(t, holds)
				if got, e := frees.Free(n), other.free(n); got != e {
					t.Fatalf("%d in use, Free(%d): %d, not %d", held, n, got, e)
				}
				other.check(t, frees)
			}
		}
	}
}

// The chapter's sentence on a nil Meter.
func TestNilMeter(t *testing.T) {
	var m *meter.Meter
	for _, n := range numbers() {
		if e := m.Hold(n); e != api.ErrArg {
			t.Errorf("Hold(%d): %d", n, e)
		}
		if e := m.Free(n); e != api.ErrArg {
			t.Errorf("Free(%d): %d", n, e)
		}
		for _, k := range append(strangers(), meter.Reads, meter.Writes) {
			m.Step(k, n)
		}
		if got := look(m); got != (state{}) {
			t.Fatalf("a nil Meter tells %v", got)
		}
	}
	for _, k := range strangers() {
		if got := m.Of(k); got != (api.Wide{}) {
			t.Errorf("Of(%d): %v", k, got)
		}
	}
	for _, a := range wides() {
		if got := m.Since(a); got != (api.Wide{}) {
			t.Errorf("Since(%v): %v", a, got)
		}
	}
}

// P7.3, and P7.1 and P7.2 over many calls

// run makes calls that follow no short rule, of which some fail, and tells
// check of each.
func run(m *meter.Meter, want *model, seed noise, calls int, check func(got, want api.Errno)) {
	ns := numbers()
	for range calls {
		n := ns[seed.below(len(ns))]
		switch seed.below(8) {
		case 0, 1:
			k := meter.Kind(seed.below(5) - 1)
			m.Step(k, n)
			want.step(k, n)
			check(api.OK, api.OK)
		case 2, 3:
			check(m.Hold(n), want.hold(n))
		case 4:
			check(m.Free(n), want.free(n))
		case 5: // as many as there are, and near it
			n = m.Held() + seed.below(5) - 3
			check(m.Free(n), want.free(n))
		case 6: // as many as there is room for, and near it
			n = full - m.Held() + seed.below(5) - 3
			check(m.Hold(n), want.hold(n))
		case 7:
			n = seed.below(1 << 20)
			check(m.Hold(n), want.hold(n))
		}
	}
}

func TestManyCalls(t *testing.T) {
	for seed := range noise(20) {
		m, want := meter.New(), newModel()
		seen := map[api.Errno]int{}
		run(m, want, seed, 2000, func(got, e api.Errno) {
			seen[e]++
			if got != e {
				t.Fatalf("error %d, not %d", got, e)
			}
			want.check(t, m)
		})
		for _, e := range []api.Errno{api.OK, api.ErrArg, api.ErrFull, api.ErrNone} {
			if seen[e] < 20 {
				t.Errorf("error %d was to be seen %d times only", e, seen[e])
			}
		}
	}
}

func TestHighAndStepsNeverDecrease(t *testing.T) {
	for seed := range noise(20) {
		m := meter.New()
		before := look(m)
		run(m, newModel(), 100+seed, 2000, func(api.Errno, api.Errno) {
			now := look(m)
			if now.high < now.held {
				t.Fatalf("High %d, Held %d", now.high, now.held)
			}
			if now.high < before.high {
				t.Fatalf("High %d behind %d", now.high, before.high)
			}
			if large(now.steps).Cmp(large(before.steps)) < 0 {
				t.Fatalf("Steps %v behind %v", now.steps, before.steps)
			}
			if large(now.reads).Cmp(large(before.reads)) < 0 || large(now.writes).Cmp(large(before.writes)) < 0 {
				t.Fatalf("%v behind %v", now, before)
			}
			before = now
		})
	}
}

// P1

// A call whose time grows with n would not end here.
func TestCallsEndForAllArguments(t *testing.T) {
	m := meter.New()
	for _, n := range numbers() {
		for _, k := range append(strangers(), meter.Reads, meter.Writes) {
			m.Step(k, n)
			m.Of(k)
		}
		m.Hold(n)
		m.Free(n)
	}
	for _, a := range wides() {
		m.Since(a)
	}
	if m.High() < m.Held() {
		t.Errorf("High %d, Held %d", m.High(), m.Held())
	}
}

// P2 (rules 3 and 4)

func TestFailedCallsHaveNoEffect(t *testing.T) {
	for seed := range noise(10) {
		m := meter.New()
		before := look(m)
		failed := 0
		run(m, newModel(), 200+seed, 2000, func(e, _ api.Errno) {
			now := look(m)
			if e != api.OK {
				failed++
				if now != before {
					t.Fatalf("error %d changed %v to %v", e, before, now)
				}
			}
			before = now
		})
		if failed < 100 {
			t.Errorf("%d calls failed only", failed)
		}
	}
}

// Whatever is asked of a Meter, it tells the same again.
func TestAskingChangesNothing(t *testing.T) {
	m := meter.New()
	run(m, newModel(), 300, 500, func(api.Errno, api.Errno) {
		first := look(m)
		m.Of(7)
		m.Since(api.Wide{Lo: 1})
		if again := look(m); again != first {
			t.Fatalf("%v, and then %v", first, again)
		}
	})
}

// Steps do not count as words in use, nor these as steps.
func TestStepsAndWordsAreApart(t *testing.T) {
	m := meter.New()
	m.Step(meter.Reads, 3)
	m.Step(meter.Writes, 4)
	if m.Held() != 0 || m.High() != 0 {
		t.Errorf("7 steps: Held %d, High %d", m.Held(), m.High())
	}
	m.Hold(100)
	m.Free(40)
	m.Hold(-1)
	if got, want := look(m), (state{api.Wide{Lo: 3}, api.Wide{Lo: 4}, api.Wide{Lo: 7}, 60, 100}); got != want {
		t.Errorf("%v, not %v", got, want)
	}
}

// Each Meter has counters of its own, and the same calls on two of them have
// the same results.
func TestMetersAreApart(t *testing.T) {
	a, b, c := meter.New(), meter.New(), meter.New()
	var of, again []state
	run(a, newModel(), 400, 500, func(api.Errno, api.Errno) { of = append(of, look(a)) })
	if got := look(b); got != (state{}) {
		t.Fatalf("calls on another Meter: %v", got)
	}
	last := look(a)
	run(c, newModel(), 400, 500, func(api.Errno, api.Errno) { again = append(again, look(c)) })
	if !slices.Equal(of, again) {
		t.Errorf("the same calls on two Meters differ")
	}
	if look(b) != (state{}) || look(a) != last || look(meter.New()) != (state{}) {
		t.Errorf("calls on another Meter: %v, %v", look(a), look(b))
	}
}

// A Meter shows the chapter's methods and nothing else, whatever it embeds.
func TestNothingElseIsExported(t *testing.T) {
	of := reflect.TypeFor[*meter.Meter]()
	var got []string
	for i := range of.NumMethod() {
		got = append(got, of.Method(i).Name)
	}
	if want := []string{"Free", "Held", "High", "Hold", "Of", "Since", "Step", "Steps"}; !slices.Equal(got, want) {
		t.Errorf("methods: %v", got)
	}
	for _, f := range reflect.VisibleFields(of.Elem()) {
		if f.IsExported() {
			t.Errorf("field %s is exported", f.Name)
		}
	}
}
