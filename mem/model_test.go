package mem_test

import (
	"fmt"
	"math"
	"strings"
	"testing"

	"haymow/api"
	"haymow/mem"
	"haymow/meter"
)

// The chapter's bounds.
const (
	mostWords  = 4194304
	mostSpaces = 262144
)

// model does as the chapter says, word by word and number by number.
type model struct {
	spaces              map[int][]uint64
	reads, writes, high int
}

func newModel() *model { return &model{spaces: map[int][]uint64{}} }

func (m *model) held() int {
	n := 0
	for _, s := range m.spaces {
		n += len(s)
	}
	return n
}

func (m *model) open(words int) (int, api.Errno) {
	if words < 0 {
		return 0, api.ErrArg
	}
	if words > mostWords {
		return 0, api.ErrLong
	}
	if len(m.spaces) == mostSpaces {
		return 0, api.ErrFull
	}
	id := 0
	for m.is(id) {
		id++
	}
	m.spaces[id] = make([]uint64, words)
	m.high = max(m.high, m.held())
	return id, api.OK
}

func (m *model) is(id int) bool {
	_, ok := m.spaces[id]
	return ok
}

func (m *model) close(id int) api.Errno {
	if !m.is(id) {
		return api.ErrSpace
	}
	delete(m.spaces, id)
	return api.OK
}

func (m *model) size(id int) (int, api.Errno) {
	if !m.is(id) {
		return 0, api.ErrSpace
	}
	return len(m.spaces[id]), api.OK
}

func (m *model) grow(id, words int) api.Errno {
	if !m.is(id) {
		return api.ErrSpace
	}
	if len(m.spaces[id]) > words {
		return api.ErrArg
	}
	if words > mostWords {
		return api.ErrLong
	}
	for len(m.spaces[id]) < words {
		m.spaces[id] = append(m.spaces[id], 0)
	}
	m.high = max(m.high, m.held())
	return api.OK
}

// exist goes through a range one by one.
func (m *model) exist(id, at, n int) bool {
	size := len(m.spaces[id])
	if n < 0 || at < 0 || at > size {
		return false
	}
	for ; n > 0; n-- {
		if at == size {
			return false
		}
		at++
	}
	return true
}

// find returns what is wrong with a range, if anything is.
func (m *model) find(id, at, n int) api.Errno {
	if !m.is(id) {
		return api.ErrSpace
	}
	if !m.exist(id, at, n) {
		return api.ErrBounds
	}
	return api.OK
}

func (m *model) read(id, at int) (uint64, api.Errno) {
	if e := m.find(id, at, 1); e != api.OK {
		return 0, e
	}
	m.reads++
	return m.spaces[id][at], api.OK
}

func (m *model) write(id, at int, w uint64) api.Errno {
	if e := m.find(id, at, 1); e != api.OK {
		return e
	}
	m.writes++
	m.spaces[id][at] = w
	return api.OK
}

func (m *model) zero(id, at, n int) api.Errno {
	if e := m.find(id, at, n); e != api.OK {
		return e
	}
	for i := range n {
		m.spaces[id][at+i] = 0
		m.writes++
	}
	return api.OK
}

func (m *model) copy(from, at, to, dest, n int) api.Errno {
	if !m.is(from) || !m.is(to) {
		return api.ErrSpace
	}
	if !m.exist(from, at, n) || !m.exist(to, dest, n) {
		return api.ErrBounds
	}
	var had []uint64
	for i := range n {
		had = append(had, m.spaces[from][at+i])
		m.reads++
	}
	for i, w := range had {
		m.spaces[to][dest+i] = w
		m.writes++
	}
	return api.OK
}

// told is how many numbers of spaces tell goes through, beside some that are
// negative.
const told = 12

// tell is all that a Mem tells, as far as it has few spaces.
func tell(m *mem.Mem) string {
	var b strings.Builder
	fmt.Fprint(&b, m.Spaces(), m.Of(meter.Reads), m.Of(meter.Writes), m.Steps(), m.Held(), m.High())
	for id := -2; id < told; id++ {
		size, e := m.Size(id)
		words, other := m.Look(id)
		fmt.Fprint(&b, "|", size, e, words, other)
	}
	return b.String()
}

// tell is what a Mem should tell.
func (m *model) tell() string {
	wide := func(n int) api.Wide { return api.Wide{Lo: uint64(n)} }
	var b strings.Builder
	fmt.Fprint(&b, len(m.spaces), wide(m.reads), wide(m.writes), wide(m.reads+m.writes), m.held(), m.high)
	for id := -2; id < told; id++ {
		size, e := m.size(id)
		fmt.Fprint(&b, "|", size, e, m.spaces[id], e)
	}
	return b.String()
}

// pair is a Mem and a model on which the same calls are made.
type pair struct {
	got  *mem.Mem
	want *model
}

func newPair() pair { return pair{mem.New(), newModel()} }

func (p pair) check(t *testing.T, call string, args ...any) {
	t.Helper()
	if got, want := tell(p.got), p.want.tell(); got != want {
		t.Fatalf("%s%v:\n%s, not\n%s", call, args, got, want)
	}
}

// same fails unless both made the same of a call.
func same[T comparable](t *testing.T, call string, got T, e api.Errno, want T, f api.Errno, args ...any) {
	t.Helper()
	if got != want || e != f {
		t.Fatalf("%s%v: %v, error %d, not %v, error %d", call, args, got, e, want, f)
	}
}

func (p pair) open(t *testing.T, words int) (int, api.Errno) {
	t.Helper()
	got, e := p.got.Open(words)
	want, f := p.want.open(words)
	same(t, "Open", got, e, want, f, words)
	return got, e
}

func (p pair) close(t *testing.T, id int) api.Errno {
	t.Helper()
	e := p.got.Close(id)
	same(t, "Close", 0, e, 0, p.want.close(id), id)
	return e
}

func (p pair) grow(t *testing.T, id, words int) api.Errno {
	t.Helper()
	e := p.got.Grow(id, words)
	same(t, "Grow", 0, e, 0, p.want.grow(id, words), id, words)
	return e
}

func (p pair) read(t *testing.T, id, at int) (uint64, api.Errno) {
	t.Helper()
	got, e := p.got.Read(id, at)
	want, f := p.want.read(id, at)
	same(t, "Read", got, e, want, f, id, at)
	return got, e
}

func (p pair) write(t *testing.T, id, at int, w uint64) api.Errno {
	t.Helper()
	e := p.got.Write(id, at, w)
	same(t, "Write", 0, e, 0, p.want.write(id, at, w), id, at, w)
	return e
}

func (p pair) zero(t *testing.T, id, at, n int) api.Errno {
	t.Helper()
	e := p.got.Zero(id, at, n)
	same(t, "Zero", 0, e, 0, p.want.zero(id, at, n), id, at, n)
	return e
}

func (p pair) copy(t *testing.T, from, at, to, dest, n int) api.Errno {
	t.Helper()
	e := p.got.Copy(from, at, to, dest, n)
	same(t, "Copy", 0, e, 0, p.want.copy(from, at, to, dest, n), from, at, to, dest, n)
	return e
}

// fill opens spaces of these sizes, with a different word in each place.
func (p pair) fill(t *testing.T, sizes ...int) {
	t.Helper()
	for _, size := range sizes {
		id, e := p.open(t, size)
		if e != api.OK {
			t.Fatalf("Open(%d): error %d", size, e)
		}
		for at := range size {
			p.write(t, id, at, uint64(100*(id+1)+at+1))
		}
	}
}

// noise goes through numbers that follow no short rule, the same ones each time.
type noise uint64

func (s *noise) below(n int) int {
	*s = *s*6364136223846793005 + 1442695040888963407
	return int(uint64(*s)>>33) % n
}

// word returns one of 64 bits.
func (s *noise) word() uint64 {
	s.below(1)
	return uint64(*s) ^ uint64(*s)>>31
}

// far are numbers that are no space, no word, and all but 100 no size, of which
// some would be when their upper bits are dropped.
func far() []int {
	return []int{math.MinInt, math.MinInt + 1, -1 << 32, -mostWords, -100, 100, mostWords + 1, 1 << 31, 1 << 32, 1<<32 + 1, 1 << 62, math.MaxInt - 5, math.MaxInt - 3, math.MaxInt - 1, math.MaxInt}
}

// some returns a number from -2 to n, or at times a far one.
func (s *noise) some(n int) int {
	if s.below(30) == 0 {
		return far()[s.below(len(far()))]
	}
	return s.below(n+3) - 2
}

// run makes calls that follow no short rule, of which some fail, and tells
// check of each.
func (p pair) run(t *testing.T, seed noise, calls int, check func(call string, e api.Errno)) {
	t.Helper()
	for range calls {
		var e api.Errno
		var call string
		id := seed.some(told - 2)
		switch seed.below(16) {
		case 0:
			words := seed.some(8)
			if len(p.want.spaces) < told || words < 0 || words > mostWords {
				call = "Open"
				_, e = p.open(t, words)
			}
		case 1:
			call = "Close"
			e = p.close(t, id)
		case 2, 3:
			words := seed.some(24)
			if words < 50 || words > mostWords {
				call = "Grow"
				e = p.grow(t, id, words)
			}
		case 4, 5, 6:
			call = "Read"
			_, e = p.read(t, id, seed.some(16))
		case 7, 8, 9, 10, 11:
			call = "Write"
			e = p.write(t, id, seed.some(16), seed.word())
		case 12:
			call = "Zero"
			e = p.zero(t, id, seed.some(16), seed.some(8))
		case 13, 14:
			call = "Copy"
			e = p.copy(t, id, seed.some(16), seed.some(told-2), seed.some(16), seed.some(8))
		case 15:
			call = "Copy"
			e = p.copy(t, id, seed.some(8), id, seed.some(8), seed.some(8))
		}
		check(call, e)
	}
}
