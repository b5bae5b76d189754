package large_test

import (
	"fmt"
	"math"
	"slices"
	"strings"
	"testing"

	"haymow/api"
	"haymow/large"
	"haymow/mem"
	"haymow/meter"
)

// noise goes through numbers that follow no short rule, the same ones each time.
type noise uint64

func (s *noise) below(n int) int {
	*s = *s*6364136223846793005 + 1442695040888963407
	return int(uint64(*s)>>33) % n
}

// word returns one of 64 bits.
func (s *noise) word() uint64 {
	s.below(1)
	return uint64(*s) ^ uint64(*s)>>31
}

// far are numbers of no object, no index and no number of words, of which some
// would be when their upper bits are dropped, or when their sign is.
func far() []int {
	out := []int{math.MinInt, math.MinInt + 1, math.MinInt + 2, math.MinInt + 5, math.MaxInt - 5, math.MaxInt - 2, math.MaxInt - 1, math.MaxInt}
	for bit := 23; bit < 63; bit++ {
		p := 1 << bit
		out = append(out, p-1, p, p+1, p+2, -p-1, -p, 1-p, 2-p)
	}
	return out
}

// object is one that there is.
type object struct {
	id     int
	words  []uint64
	marked bool
	told   bool // by Grey, since the last Begin
}

// model does as the chapter says. The objects stand in the order of All.
type model struct {
	objects  []object
	made     int   // numbers, all from 1 on
	returned []int // numbers, in their order, those that were taken again left out
	room     int   // entries that the pool has
}

// split returns the marked objects and all others.
func (m *model) split() (marked, others []object) {
	for _, x := range m.objects {
		if x.marked {
			marked = append(marked, x)
		} else {
			others = append(others, x)
		}
	}
	return marked, others
}

func wordsOf(list []object) int {
	n := 0
	for _, x := range list {
		n += len(x.words)
	}
	return n
}

// held is how many words are in use.
func (m *model) held() int { return wordsOf(m.objects) + 6*m.room }

func (m *model) find(id int) *object {
	for i := range m.objects {
		if m.objects[i].id == id {
			return &m.objects[i]
		}
	}
	return nil
}

// add is told whether the Mem has room for a space.
func (m *model) add(words int, full bool) (int, api.Errno) {
	switch {
	case words < 1:
		return 0, api.ErrArg
	case words > mostWords:
		return 0, api.ErrLong
	case full:
		return 0, api.ErrFull
	}
	id := m.number()
	marked, others := m.split()
	marked = append(marked, object{id: id, words: make([]uint64, words), marked: true})
	m.objects = append(marked, others...)
	return id, api.OK
}

func (m *model) number() int {
	if n := len(m.returned); n > 0 {
		id := m.returned[n-1]
		m.returned = m.returned[:n-1]
		return id
	}
	m.made++
	if m.made > m.room {
		m.room = max(8, 2*m.room)
	}
	return m.made
}

// word returns the place of a word, or what is wrong with a call for it.
func (m *model) word(id, at int) (*uint64, api.Errno) {
	x := m.find(id)
	if x == nil {
		return nil, api.ErrNone
	}
	for i := range x.words {
		if i == at {
			return &x.words[i], api.OK
		}
	}
	return nil, api.ErrBounds
}

func (m *model) size(id int) (int, api.Errno) {
	x := m.find(id)
	if x == nil {
		return 0, api.ErrNone
	}
	return len(x.words), api.OK
}

func (m *model) marked(id int) (bool, api.Errno) {
	x := m.find(id)
	if x == nil {
		return false, api.ErrNone
	}
	return x.marked, api.OK
}

func (m *model) begin() {
	marked, others := m.split()
	m.objects = append(others, marked...)
	for i := range m.objects {
		m.objects[i].marked, m.objects[i].told = false, false
	}
}

func (m *model) mark(id int) (bool, api.Errno) {
	x := m.find(id)
	if x == nil {
		return false, api.ErrNone
	}
	if x.marked {
		return false, api.OK
	}
	now := *x
	now.marked = true
	marked, others := m.split()
	others = slices.DeleteFunc(others, func(x object) bool { return x.id == id })
	m.objects = append(append(marked, now), others...)
	return true, api.OK
}

func (m *model) grey() (int, bool) {
	for i, x := range m.objects {
		if x.marked && !x.told {
			m.objects[i].told = true
			return x.id, true
		}
	}
	return 0, false
}

func (m *model) sweep() (count, words int) {
	marked, others := m.split()
	for _, x := range others {
		m.returned = append(m.returned, x.id)
	}
	m.objects = marked
	return len(others), wordsOf(others)
}

func (m *model) all() []int {
	var out []int
	for _, x := range m.objects {
		out = append(out, x.id)
	}
	return out
}

// tell is all that a Large should tell, beside its steps and what Grey does.
func (m *model) tell() string {
	var b strings.Builder
	fmt.Fprint(&b, len(m.objects), wordsOf(m.objects), m.held(), 1+len(m.objects), m.all())
	for id := -1; id <= m.made+2; id++ {
		size, e := m.size(id)
		marked, f := m.marked(id)
		fmt.Fprint(&b, "|", size, e, marked, f)
		for at := -1; at <= min(size, 9); at++ {
			var w uint64
			place, e := m.word(id, at)
			if e == api.OK {
				w = *place
			}
			fmt.Fprint(&b, " ", w, e)
		}
	}
	return b.String()
}

// pair is a Large and a model on which the same calls are made.
type pair struct {
	m           *mem.Mem
	got         *large.Large
	want        model
	otherWords  int // of the Mem that are in use beside those of the Large
	otherSpaces int
}

// newPair makes a Large in m.
func newPair(t *testing.T, m *mem.Mem) *pair {
	t.Helper()
	words, spaces := m.Held(), m.Spaces()
	l, e := large.New(m)
	if e != api.OK || l == nil {
		t.Fatalf("New: %v, error %d", l, e)
	}
	return &pair{m: m, got: l, otherWords: words, otherSpaces: spaces}
}

// all returns what All yields.
func all(l *large.Large) []int {
	var out []int
	for id := range l.All() {
		out = append(out, id)
	}
	return out
}

// tell is all that a Large tells, beside its steps and what Grey does.
func (p *pair) tell() string {
	l := p.got
	var b strings.Builder
	fmt.Fprint(&b, l.Count(), l.Words(), p.m.Held()-p.otherWords, p.m.Spaces()-p.otherSpaces, all(l))
	for id := -1; id <= p.want.made+2; id++ {
		size, e := l.Size(id)
		marked, f := l.Marked(id)
		fmt.Fprint(&b, "|", size, e, marked, f)
		for at := -1; at <= min(size, 9); at++ {
			w, e := l.Read(id, at)
			fmt.Fprint(&b, " ", w, e)
		}
	}
	return b.String()
}

func (p *pair) check(t *testing.T, call string, args ...any) {
	t.Helper()
	if got, want := p.tell(), p.want.tell(); got != want {
		t.Fatalf("%s%v:\n%s, not\n%s", call, args, got, want)
	}
}

// steps returns how many steps a call takes.
func steps(m *mem.Mem, call func()) int {
	before := m.Steps()
	call()
	return int(m.Since(before).Lo)
}

// due fails unless a call takes a number of steps from least to most.
func (p *pair) due(t *testing.T, least, most int, call func(), name string, args ...any) {
	t.Helper()
	if got := steps(p.m, call); got < least || got > most {
		t.Fatalf("%s%v: %d steps, not %d to %d", name, args, got, least, most)
	}
}

// exactly returns the bounds of the steps of a call that takes n: at most as
// many if it fails.
func exactly(n int, e api.Errno) (least, most int) {
	if e != api.OK {
		return 0, n
	}
	return n, n
}

// same fails unless both made the same of a call.
func same[T comparable](t *testing.T, call string, got T, e api.Errno, want T, f api.Errno, args ...any) {
	t.Helper()
	if got != want || e != f {
		t.Fatalf("%s%v: %v, error %d, not %v, error %d", call, args, got, e, want, f)
	}
}

// add returns the number of an object of so many words, or 0.
func (p *pair) add(t *testing.T, words int) (int, api.Errno) {
	t.Helper()
	want, f := p.want.add(words, p.m.Spaces() == mostSpaces)
	p.due(t, 0, 24, func() {
		got, e := p.got.Add(words)
		same(t, "Add", got, e, want, f, words)
	}, "Add", words)
	return want, f
}

func (p *pair) size(t *testing.T, id int) api.Errno {
	t.Helper()
	want, f := p.want.size(id)
	least, most := exactly(2, f)
	p.due(t, least, most, func() {
		got, e := p.got.Size(id)
		same(t, "Size", got, e, want, f, id)
	}, "Size", id)
	return f
}

func (p *pair) read(t *testing.T, id, at int) api.Errno {
	t.Helper()
	var want uint64
	place, f := p.want.word(id, at)
	if f == api.OK {
		want = *place
	}
	least, most := exactly(3, f)
	p.due(t, least, most, func() {
		got, e := p.got.Read(id, at)
		same(t, "Read", got, e, want, f, id, at)
	}, "Read", id, at)
	return f
}

func (p *pair) write(t *testing.T, id, at int, w uint64) api.Errno {
	t.Helper()
	place, f := p.want.word(id, at)
	if f == api.OK {
		*place = w
	}
	least, most := exactly(3, f)
	p.due(t, least, most, func() {
		same(t, "Write", 0, p.got.Write(id, at, w), 0, f, id, at, w)
	}, "Write", id, at, w)
	return f
}

func (p *pair) begin(t *testing.T) {
	t.Helper()
	p.want.begin()
	p.due(t, 0, 2, p.got.Begin, "Begin")
}

func (p *pair) marked(t *testing.T, id int) api.Errno {
	t.Helper()
	want, f := p.want.marked(id)
	least, most := exactly(2, f)
	p.due(t, least, most, func() {
		got, e := p.got.Marked(id)
		same(t, "Marked", got, e, want, f, id)
	}, "Marked", id)
	return f
}

// mark reports whether the object was not marked.
func (p *pair) mark(t *testing.T, id int) (bool, api.Errno) {
	t.Helper()
	want, f := p.want.mark(id)
	p.due(t, 0, 12, func() {
		got, e := p.got.Mark(id)
		same(t, "Mark", got, e, want, f, id)
	}, "Mark", id)
	return want, f
}

func (p *pair) grey(t *testing.T) (int, bool) {
	t.Helper()
	want, f := p.want.grey()
	p.due(t, 0, 1, func() {
		if got, ok := p.got.Grey(); got != want || ok != f {
			t.Fatalf("Grey: %d, %v, not %d, %v", got, ok, want, f)
		}
	}, "Grey")
	return want, f
}

// drain calls Grey for all objects that are left to it, and once more.
func (p *pair) drain(t *testing.T) {
	t.Helper()
	for {
		if _, ok := p.grey(t); !ok {
			return
		}
	}
}

// sweep returns how many objects were removed.
func (p *pair) sweep(t *testing.T) int {
	t.Helper()
	count, words := p.want.sweep()
	p.due(t, 0, 16*count, func() {
		if n, w := p.got.Sweep(); n != count || w != words {
			t.Fatalf("Sweep: %d, %d, not %d, %d", n, w, count, words)
		}
	}, "Sweep")
	return count
}

// ask fails unless the calls that tell of the whole Large are right and take as
// many steps as they may.
func (p *pair) ask(t *testing.T) {
	t.Helper()
	l := p.got
	p.due(t, 0, 0, func() {
		same(t, "Count", l.Count(), 0, len(p.want.objects), 0)
		same(t, "Words", l.Words(), 0, wordsOf(p.want.objects), 0)
		l.All()
	}, "asking")
	p.due(t, 0, len(p.want.objects)+2, func() {
		if got := all(l); !slices.Equal(got, p.want.all()) {
			t.Fatalf("All: %v, not %v", got, p.want.all())
		}
	}, "All")
}

// fill writes each word of an object, as a number that no other word of the
// run is.
func (p *pair) fill(t *testing.T, id int) {
	t.Helper()
	size, _ := p.want.size(id)
	for at := range size {
		if e := p.write(t, id, at, uint64(id*1000+at+1)); e != api.OK {
			t.Fatalf("Write(%d, %d): error %d", id, at, e)
		}
	}
}

// addAll adds objects of so many words each, writes them, and fails unless
// they have the numbers from 1 on.
func (p *pair) addAll(t *testing.T, sizes ...int) {
	t.Helper()
	for i, words := range sizes {
		if id, e := p.add(t, words); id != i+1 || e != api.OK {
			t.Fatalf("Add(%d): %d, error %d", words, id, e)
		}
		p.fill(t, i+1)
	}
}

// markAll marks objects that are not marked.
func (p *pair) markAll(t *testing.T, ids ...int) {
	t.Helper()
	for _, id := range ids {
		if was, e := p.mark(t, id); !was || e != api.OK {
			t.Fatalf("Mark(%d): %v, error %d", id, was, e)
		}
	}
}

// order fails unless All yields these numbers.
func (p *pair) order(t *testing.T, call string, want ...int) {
	t.Helper()
	if got := all(p.got); !slices.Equal(got, want) {
		t.Fatalf("%s: All %v, not %v", call, got, want)
	}
}

// greys fails unless Grey returns these numbers, and no further one.
func (p *pair) greys(t *testing.T, call string, want ...int) {
	t.Helper()
	var got []int
	for range len(want) + 2 {
		if id, ok := p.grey(t); ok {
			got = append(got, id)
		}
	}
	if !slices.Equal(got, want) {
		t.Fatalf("%s: Grey %v, not %v", call, got, want)
	}
}

// some returns a number from -1 to n + 1, or at times a far one.
func (s *noise) some(n int) int {
	if s.below(20) == 0 {
		return far()[s.below(len(far()))]
	}
	return s.below(n+3) - 1
}

// result names what a call made of its arguments.
func result(call string, ok bool, e api.Errno) string { return fmt.Sprint(call, " ", ok, " ", e) }

// run makes calls that follow no short rule, of which some fail, and tells
// check of each. Objects become more, then fewer, and so on.
func (p *pair) run(t *testing.T, seed noise, calls int, check func(call string, e api.Errno)) {
	t.Helper()
	for i := range calls {
		id, at := seed.some(p.want.made), seed.some(6)
		var e api.Errno
		ok := true
		var call string
		switch n := seed.below(40); {
		case n < 6, n < 10 && i/100%2 == 0:
			call = "Add"
			_, e = p.add(t, seed.some(5))
		case n < 14:
			call, e = "Write", p.write(t, id, at, seed.word())
		case n < 17:
			call, e = "Read", p.read(t, id, at)
		case n < 19:
			call, e = "Size", p.size(t, id)
		case n < 21:
			call, e = "Marked", p.marked(t, id)
		case n < 28:
			call = "Mark"
			ok, e = p.mark(t, id)
		case n < 35:
			call = "Grey"
			_, ok = p.grey(t)
		case n < 37:
			call = "Begin"
			p.begin(t)
		case n < 38:
			call = "Sweep"
			ok = p.sweep(t) > 0
		default:
			call = "ask"
			p.ask(t)
		}
		check(result(call, ok, e), e)
	}
}

// counted is what a Mem tells beside its words.
func counted(m *mem.Mem) string {
	return fmt.Sprint(m.Of(meter.Reads), m.Of(meter.Writes), m.Held(), m.High(), m.Spaces())
}
