package semi_test

import (
	"fmt"
	"math"
	"strings"
	"testing"

	"haymow/api"
	"haymow/mem"
	"haymow/meter"
	"haymow/semi"
)

// noise goes through numbers that follow no short rule, the same ones each time.
type noise uint64

func (s *noise) below(n int) int {
	*s = *s*6364136223846793005 + 1442695040888963407
	return int(uint64(*s)>>33) % n
}

// word returns one of 64 bits.
func (s *noise) word() uint64 {
	s.below(1)
	return uint64(*s) ^ uint64(*s)>>31
}

// far are numbers that are no index and no number of words, of which some would
// be when their upper bits are dropped, when their sign is, or when an index is
// added to them.
func far() []int {
	out := []int{math.MinInt, math.MinInt + 1, math.MinInt + 2, math.MinInt + 5, math.MaxInt - 5, math.MaxInt - 2, math.MaxInt - 1, math.MaxInt}
	for bit := 23; bit < 63; bit++ {
		p := 1 << bit
		out = append(out, p-1, p, p+1, p+2, -p-1, -p, 1-p, 2-p)
	}
	return out
}

// model does as the chapter says. A space is a list of its allocated words,
// beside the number of all its words.
type model struct {
	words, old    []uint64
	size, oldSize int
	turning       bool
}

func (m *model) room() int { return m.size - len(m.words) }

// held is how many words are in use.
func (m *model) held() int { return m.size + m.oldSize }

func (m *model) take(words int) (int, api.Errno) {
	if words <= 0 {
		return 0, api.ErrArg
	}
	if m.room() < words {
		return 0, api.ErrFull
	}
	at := len(m.words)
	for range words {
		m.words = append(m.words, 0)
	}
	return at, api.OK
}

// find returns the place of an allocated word, or what is wrong with a call for
// it.
func (m *model) find(old bool, at int) (*uint64, api.Errno) {
	list := m.words
	if old {
		if !m.turning {
			return nil, api.ErrNone
		}
		list = m.old
	}
	for i := range list {
		if i == at {
			return &list[i], api.OK
		}
	}
	return nil, api.ErrBounds
}

func (m *model) resize(words int) api.Errno {
	if words < 0 {
		return api.ErrArg
	}
	if words > mostWords {
		return api.ErrLong
	}
	m.size = max(m.size, words)
	return api.OK
}

// flip is told whether the Mem has room for a space.
func (m *model) flip(words int, full bool) api.Errno {
	switch {
	case m.turning || words < 0:
		return api.ErrArg
	case words > mostWords:
		return api.ErrLong
	case full:
		return api.ErrFull
	}
	*m = model{old: m.words, oldSize: m.size, size: words, turning: true}
	return api.OK
}

// move goes through the words of a range one by one. An empty range is within
// the old space from its first word to behind its last one.
func (m *model) move(at, words int) (int, api.Errno) {
	if !m.turning {
		return 0, api.ErrNone
	}
	if words < 0 || at < 0 || at > len(m.old) {
		return 0, api.ErrBounds
	}
	var moved []uint64
	for i := range words {
		if at+i == len(m.old) {
			return 0, api.ErrBounds
		}
		moved = append(moved, m.old[at+i])
	}
	to, e := m.take(words)
	if e == api.OK {
		copy(m.words[to:], moved)
	}
	return to, e
}

func (m *model) end() api.Errno {
	if !m.turning {
		return api.ErrNone
	}
	m.old, m.oldSize, m.turning = nil, 0, false
	return api.OK
}

// tell is all that a Semi should tell, beside its steps.
func (m *model) tell() string {
	var b strings.Builder
	fmt.Fprint(&b, m.size, len(m.words), m.room(), m.turning, len(m.old), m.held())
	for _, old := range []bool{false, true} {
		for at := -1; at <= len(m.words)+len(m.old)+1; at++ {
			var w uint64
			place, e := m.find(old, at)
			if e == api.OK {
				w = *place
			}
			fmt.Fprint(&b, "|", w, e)
		}
	}
	return b.String()
}

// pair is a Semi and a model on which the same calls are made.
type pair struct {
	m     *mem.Mem
	got   *semi.Semi
	want  model
	other int // words of the Mem that are in use beside those of the Semi
}

// newPair makes a Semi in m.
func newPair(t *testing.T, m *mem.Mem, words int) *pair {
	t.Helper()
	other := m.Held()
	s, e := semi.New(m, words)
	if e != api.OK || s == nil {
		t.Fatalf("New(%d): %v, error %d", words, s, e)
	}
	return &pair{m: m, got: s, want: model{size: words}, other: other}
}

// tell is all that a Semi tells, beside its steps.
func (p *pair) tell() string {
	s := p.got
	var b strings.Builder
	fmt.Fprint(&b, s.Size(), s.Top(), s.Room(), s.Turning(), s.OldTop(), p.m.Held()-p.other)
	for _, read := range []func(int) (uint64, api.Errno){s.Read, s.ReadOld} {
		for at := -1; at <= s.Top()+s.OldTop()+1; at++ {
			w, e := read(at)
			fmt.Fprint(&b, "|", w, e)
		}
	}
	return b.String()
}

func (p *pair) check(t *testing.T, call string, args ...any) {
	t.Helper()
	if got, want := p.tell(), p.want.tell(); got != want {
		t.Fatalf("%s%v:\n%s, not\n%s", call, args, got, want)
	}
}

// takes fails unless a call takes exactly so many steps of each kind.
func (p *pair) takes(t *testing.T, reads, writes int, call func(), name string, args ...any) {
	t.Helper()
	r, w := p.m.Of(meter.Reads), p.m.Of(meter.Writes)
	r.Lo += uint64(reads)
	w.Lo += uint64(writes)
	call()
	if got := [2]api.Wide{p.m.Of(meter.Reads), p.m.Of(meter.Writes)}; got != [2]api.Wide{r, w} {
		t.Fatalf("%s%v: steps %v, not %v", name, args, got, [2]api.Wide{r, w})
	}
}

// same fails unless both made the same of a call.
func same[T comparable](t *testing.T, call string, got T, e api.Errno, want T, f api.Errno, args ...any) {
	t.Helper()
	if got != want || e != f {
		t.Fatalf("%s%v: %v, error %d, not %v, error %d", call, args, got, e, want, f)
	}
}

// once is n if there is no error, and otherwise 0.
func once(n int, e api.Errno) int {
	if e != api.OK {
		return 0
	}
	return n
}

func (p *pair) take(t *testing.T, words int) api.Errno {
	t.Helper()
	want, f := p.want.take(words)
	p.takes(t, 0, 0, func() {
		got, e := p.got.Take(words)
		same(t, "Take", got, e, want, f, words)
	}, "Take", words)
	return f
}

// read reads a word of the current space, or of the old one.
func (p *pair) read(t *testing.T, old bool, at int) api.Errno {
	t.Helper()
	call := p.got.Read
	if old {
		call = p.got.ReadOld
	}
	var want uint64
	place, f := p.want.find(old, at)
	if f == api.OK {
		want = *place
	}
	p.takes(t, once(1, f), 0, func() {
		got, e := call(at)
		same(t, "Read", got, e, want, f, old, at)
	}, "Read", old, at)
	return f
}

// write writes a word of the current space, or of the old one.
func (p *pair) write(t *testing.T, old bool, at int, w uint64) api.Errno {
	t.Helper()
	call := p.got.Write
	if old {
		call = p.got.WriteOld
	}
	place, f := p.want.find(old, at)
	if f == api.OK {
		*place = w
	}
	p.takes(t, 0, once(1, f), func() {
		same(t, "Write", 0, call(at, w), 0, f, old, at, w)
	}, "Write", old, at, w)
	return f
}

func (p *pair) resize(t *testing.T, words int) api.Errno {
	t.Helper()
	f := p.want.resize(words)
	p.takes(t, 0, 0, func() {
		same(t, "Resize", 0, p.got.Resize(words), 0, f, words)
	}, "Resize", words)
	return f
}

func (p *pair) flip(t *testing.T, words int) api.Errno {
	t.Helper()
	f := p.want.flip(words, p.m.Spaces() == mostSpaces)
	p.takes(t, 0, 0, func() {
		same(t, "Flip", 0, p.got.Flip(words), 0, f, words)
	}, "Flip", words)
	return f
}

func (p *pair) move(t *testing.T, at, words int) api.Errno {
	t.Helper()
	want, f := p.want.move(at, words)
	n := once(words, f)
	p.takes(t, n, n, func() {
		got, e := p.got.Move(at, words)
		same(t, "Move", got, e, want, f, at, words)
	}, "Move", at, words)
	return f
}

func (p *pair) end(t *testing.T) api.Errno {
	t.Helper()
	f := p.want.end()
	p.takes(t, 0, 0, func() { same(t, "End", 0, p.got.End(), 0, f) }, "End")
	return f
}

// ask fails unless the calls that tell of the whole Semi are right and take no
// step.
func (p *pair) ask(t *testing.T) {
	t.Helper()
	s, w := p.got, p.want
	p.takes(t, 0, 0, func() {
		same(t, "Size", s.Size(), 0, w.size, 0)
		same(t, "Top", s.Top(), 0, len(w.words), 0)
		same(t, "Room", s.Room(), 0, w.room(), 0)
		same(t, "Turning", s.Turning(), 0, w.turning, 0)
		same(t, "OldTop", s.OldTop(), 0, len(w.old), 0)
	}, "asking")
}

// fill writes each word of the current space, as a number that no other word of
// the run is.
func (p *pair) fill(t *testing.T, first uint64) {
	t.Helper()
	for at := range p.want.words {
		if e := p.write(t, false, at, first+uint64(at)); e != api.OK {
			t.Fatalf("Write(%d): error %d", at, e)
		}
	}
}

// some returns a number from -1 to n + 1, or at times a far one.
func (s *noise) some(n int) int {
	if s.below(20) == 0 {
		return far()[s.below(len(far()))]
	}
	return s.below(n+3) - 1
}

// run makes calls that follow no short rule, of which some fail, and tells
// check of each.
func (p *pair) run(t *testing.T, seed noise, calls int, check func(call string, e api.Errno)) {
	t.Helper()
	for range calls {
		top, oldTop := len(p.want.words), len(p.want.old)
		var e api.Errno
		var call string
		switch n := seed.below(30); {
		case n < 5:
			call, e = "Take", p.take(t, seed.some(4))
		case n < 9:
			call, e = "Write", p.write(t, false, seed.some(top), seed.word())
		case n < 12:
			call, e = "Read", p.read(t, false, seed.some(top))
		case n < 15:
			call, e = "WriteOld", p.write(t, true, seed.some(oldTop), seed.word())
		case n < 17:
			call, e = "ReadOld", p.read(t, true, seed.some(oldTop))
		case n < 24:
			call, e = "Move", p.move(t, seed.some(oldTop), seed.some(5))
		case n < 26:
			call, e = "Resize", p.resize(t, seed.near(p.want.size))
		case n < 28:
			call, e = "Flip", p.flip(t, seed.near(20))
		case n < 29:
			call, e = "End", p.end(t)
		default:
			call = "ask"
			p.ask(t)
		}
		check(call, e)
	}
}

// near returns a number of words around n, or at times one of no space.
func (s *noise) near(n int) int {
	if s.below(12) == 0 {
		return far()[s.below(len(far()))]
	}
	return max(-1, n+s.below(16)-9)
}

// counted is what a Mem tells beside its words.
func counted(m *mem.Mem) string {
	return fmt.Sprint(m.Of(meter.Reads), m.Of(meter.Writes), m.Held(), m.High(), m.Spaces())
}
