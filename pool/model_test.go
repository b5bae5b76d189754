package pool_test

import (
	"fmt"
	"math"
	"slices"
	"strings"
	"testing"

	"haymow/api"
	"haymow/mem"
	"haymow/meter"
	"haymow/pool"
)

// noise goes through numbers that follow no short rule, the same ones each time.
type noise uint64

func (s *noise) below(n int) int {
	*s = *s*6364136223846793005 + 1442695040888963407
	return int(uint64(*s)>>33) % n
}

// word returns one of 64 bits.
func (s *noise) word() uint64 {
	s.below(1)
	return uint64(*s) ^ uint64(*s)>>31
}

// far are numbers that are no entry and no word of one, of which some would be
// when their upper bits are dropped, or when they are multiplied.
func far() []int {
	return []int{math.MinInt, math.MinInt + 1, math.MinInt + 2, -1 << 62, 1 - 1<<62, -1 << 32, 1 - 1<<32, -1000000, 2000000, 1 << 31, 1 << 32, 1<<32 + 1, 1<<32 + 2, 1<<61 + 1, 1 << 62, 1<<62 + 1, 1<<62 + 2, math.MaxInt - 1, math.MaxInt}
}

// entry is what an entry should be.
type entry struct {
	taken bool
	gen   int
	words []uint64
}

// model does as the chapter says, number by number.
type model struct {
	words    int
	entries  []entry
	returned []int // in their order, those that were taken again left out
	room     int   // entries that the space has
}

func (m *model) has(id int) bool   { return id > 0 && id <= len(m.entries) }
func (m *model) taken(id int) bool { return m.has(id) && m.entries[id-1].taken }

func (m *model) count() int {
	n := 0
	for _, x := range m.entries {
		if x.taken {
			n++
		}
	}
	return n
}

func (m *model) gen(id int) int {
	if !m.has(id) {
		return 0
	}
	return m.entries[id-1].gen
}

// take never fails: no run of calls goes as far as the bounds.
func (m *model) take() int {
	var id int
	if n := len(m.returned); n > 0 {
		id = m.returned[n-1]
		m.returned = m.returned[:n-1]
	} else {
		m.entries = append(m.entries, entry{})
		id = len(m.entries)
		if id > m.room {
			m.room = map[bool]int{true: 8, false: 2 * m.room}[m.room == 0]
		}
	}
	m.entries[id-1].taken = true
	m.entries[id-1].words = make([]uint64, m.words)
	return id
}

func (m *model) give(id int) api.Errno {
	if !m.taken(id) {
		return api.ErrNone
	}
	m.entries[id-1].taken = false
	m.entries[id-1].gen++
	m.returned = append(m.returned, id)
	return api.OK
}

// find returns the place of a word, or what is wrong with a call for it.
func (m *model) find(id, word int) (*uint64, api.Errno) {
	if !m.taken(id) {
		return nil, api.ErrNone
	}
	if word < 0 || word >= m.words {
		return nil, api.ErrIndex
	}
	return &m.entries[id-1].words[word], api.OK
}

// tell is all that a pool should tell, without its steps.
func (m *model) tell(space int) string {
	var b strings.Builder
	fmt.Fprint(&b, m.count(), len(m.entries), space, m.room*(m.words+1))
	for id := -1; id <= len(m.entries)+2; id++ {
		fmt.Fprint(&b, "|", m.taken(id), m.gen(id))
		for word := -1; word <= m.words; word++ {
			var w uint64
			at, e := m.find(id, word)
			if e == api.OK {
				w = *at
			}
			fmt.Fprint(&b, " ", w, e)
		}
	}
	return b.String()
}

// pair is a pool and a model on which the same calls are made.
type pair struct {
	m    *mem.Mem
	got  *pool.Pool
	want *model
	id   int // of the space
}

// newPair makes a pool in m.
func newPair(t *testing.T, m *mem.Mem, words int) *pair {
	t.Helper()
	next, _ := m.Open(0)
	m.Close(next)
	p, e := pool.New(m, words)
	if e != api.OK {
		t.Fatalf("New(%d): error %d", words, e)
	}
	return &pair{m: m, got: p, want: &model{words: words}, id: next}
}

// tell is all that a pool tells, without its steps.
func (p *pair) tell() string {
	size, _ := p.m.Size(p.got.Space())
	var b strings.Builder
	fmt.Fprint(&b, p.got.Count(), p.got.Made(), p.got.Space(), size)
	for id := -1; id <= p.got.Made()+2; id++ {
		fmt.Fprint(&b, "|", p.got.Taken(id), p.got.Gen(id))
		for word := -1; word <= p.want.words; word++ {
			w, e := p.got.Get(id, word)
			fmt.Fprint(&b, " ", w, e)
		}
	}
	return b.String()
}

func (p *pair) check(t *testing.T, call string, args ...any) {
	t.Helper()
	if got, want := p.tell(), p.want.tell(p.id); got != want {
		t.Fatalf("%s%v:\n%s, not\n%s", call, args, got, want)
	}
}

// steps returns how many steps a call takes.
func steps(m *mem.Mem, call func()) int {
	before := m.Steps()
	call()
	return int(m.Since(before).Lo)
}

// takes fails unless a call takes exactly so many steps.
func (p *pair) takes(t *testing.T, want int, call func(), name string, args ...any) {
	t.Helper()
	if got := steps(p.m, call); got != want {
		t.Fatalf("%s%v: %d steps, not %d", name, args, got, want)
	}
}

// most fails unless a call takes at most so many steps.
func (p *pair) most(t *testing.T, most int, call func(), name string, args ...any) {
	t.Helper()
	if got := steps(p.m, call); got > most {
		t.Fatalf("%s%v: %d steps, not at most %d", name, args, got, most)
	}
}

// due fails unless a call took so many steps, or, if it failed, at most one.
func (p *pair) due(t *testing.T, want int, e *api.Errno, call func(), name string, args ...any) {
	t.Helper()
	if got := steps(p.m, call); *e == api.OK && got != want || *e != api.OK && got > 1 {
		t.Fatalf("%s%v, error %d: %d steps", name, args, *e, got)
	}
}

// same fails unless both made the same of a call.
func same[T comparable](t *testing.T, call string, got T, e api.Errno, want T, f api.Errno, args ...any) {
	t.Helper()
	if got != want || e != f {
		t.Fatalf("%s%v: %v, error %d, not %v, error %d", call, args, got, e, want, f)
	}
}

func (p *pair) take(t *testing.T) int {
	t.Helper()
	var got int
	var e api.Errno
	p.most(t, 3+p.want.words, func() { got, e = p.got.Take() }, "Take")
	same(t, "Take", got, e, p.want.take(), api.OK)
	return got
}

func (p *pair) give(t *testing.T, id int) api.Errno {
	t.Helper()
	var e api.Errno
	p.due(t, 3, &e, func() { e = p.got.Give(id) }, "Give", id)
	same(t, "Give", 0, e, 0, p.want.give(id), id)
	return e
}

func (p *pair) get(t *testing.T, id, word int) api.Errno {
	t.Helper()
	var got, want uint64
	var e api.Errno
	p.due(t, 2, &e, func() { got, e = p.got.Get(id, word) }, "Get", id, word)
	at, f := p.want.find(id, word)
	if f == api.OK {
		want = *at
	}
	same(t, "Get", got, e, want, f, id, word)
	return e
}

func (p *pair) set(t *testing.T, id, word int, w uint64) api.Errno {
	t.Helper()
	var e api.Errno
	p.due(t, 2, &e, func() { e = p.got.Set(id, word, w) }, "Set", id, word, w)
	at, f := p.want.find(id, word)
	if f == api.OK {
		*at = w
	}
	same(t, "Set", 0, e, 0, f, id, word, w)
	return e
}

// ask asks for a number whether it is in use, and how often it was returned.
func (p *pair) ask(t *testing.T, id int) {
	t.Helper()
	due := 0
	if p.want.has(id) {
		due = 1
	}
	p.takes(t, due, func() { same(t, "Taken", p.got.Taken(id), 0, p.want.taken(id), 0, id) }, "Taken", id)
	p.takes(t, due, func() { same(t, "Gen", p.got.Gen(id), 0, p.want.gen(id), 0, id) }, "Gen", id)
}

// few fails unless the calls that tell of the whole pool take few steps.
func (p *pair) few(t *testing.T) {
	t.Helper()
	most := 3 + p.want.words
	p.most(t, most, func() { p.got.Count() }, "Count")
	p.most(t, most, func() { p.got.Made() }, "Made")
	p.most(t, most, func() { p.got.Space() }, "Space")
	p.most(t, most, func() { p.got.Table(0, 1) }, "Table")
}

// some returns a number from -1 to n + 1, or at times a far one.
func (s *noise) some(n int) int {
	if s.below(20) == 0 {
		return far()[s.below(len(far()))]
	}
	return s.below(n+3) - 1
}

// run makes calls that follow no short rule, of which some fail, and tells
// check of each. Entries become more, then fewer, and so on.
func (p *pair) run(t *testing.T, seed noise, calls int, check func(call string, e api.Errno)) {
	t.Helper()
	for i := range calls {
		made := len(p.want.entries)
		id, word := seed.some(made), seed.some(p.want.words)
		var e api.Errno
		var call string
		switch n := seed.below(12); {
		case n < 2, n < 4 && i/100%2 == 0:
			call = "Take"
			p.take(t)
		case n < 6:
			call = "Give"
			e = p.give(t, id)
		case n < 8:
			call = "Get"
			e = p.get(t, id, word)
		case n < 11:
			call = "Set"
			e = p.set(t, id, word, seed.word())
		default:
			call = "ask"
			p.ask(t, id)
			p.few(t)
		}
		check(call, e)
	}
}

// inUse returns the numbers in use, in order.
func (p *pair) inUse() []int {
	var out []int
	for id := 1; id <= p.got.Made(); id++ {
		if p.got.Taken(id) {
			out = append(out, id)
		}
	}
	return out
}

// takeAll takes so many entries.
func (p *pair) takeAll(t *testing.T, n int) {
	t.Helper()
	for range n {
		p.take(t)
	}
}

// giveAll returns these numbers.
func (p *pair) giveAll(t *testing.T, ids ...int) {
	t.Helper()
	for _, id := range ids {
		if e := p.give(t, id); e != api.OK {
			t.Fatalf("Give(%d): error %d", id, e)
		}
	}
}

// order takes as many entries as there are numbers, which they should have.
func (p *pair) order(t *testing.T, want ...int) {
	t.Helper()
	var got []int
	for range want {
		got = append(got, p.take(t))
	}
	if !slices.Equal(got, want) {
		t.Fatalf("Take: %v, not %v", got, want)
	}
}

// counted is what a meter tells.
func counted(m *mem.Mem) string {
	return fmt.Sprint(m.Of(meter.Reads), m.Of(meter.Writes), m.Held(), m.High(), m.Spaces())
}
