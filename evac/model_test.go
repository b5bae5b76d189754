package evac_test

import (
	"fmt"
	"math"
	"slices"
	"strings"
	"testing"

	"haymow/api"
	"haymow/evac"
	"haymow/mem"
	"haymow/meter"
	"haymow/ref"
	"haymow/store"
)

// The bounds of the layers that the chapter uses, written out.
const (
	mostWords  = 4194304
	mostSpaces = 262144
	mostIds    = 1048576
	mostFields = 4095
	mostAge    = 7
)

// noise goes through numbers that follow no short rule, the same ones each time.
type noise uint64

func (s *noise) below(n int) int {
	*s = *s*6364136223846793005 + 1442695040888963407
	return int(uint64(*s)>>33) % n
}

// word returns one of 64 bits, at times one that would tell something as the
// first word of an object.
func (s *noise) word() uint64 {
	switch s.below(6) {
	case 0:
		return 1<<63 + uint64(s.below(40))
	case 1:
		return headerOf(sh(s.below(4), s.below(4)), s.below(32), s.below(8), s.below(2) == 0)
	}
	s.below(1)
	return uint64(*s) ^ uint64(*s)>>31
}

// sh is a shape from its numbers.
func sh(pointers, raws int) api.Shape { return api.Shape{Pointers: pointers, Raws: raws} }

// badRefs are words that refer to nothing and are not nil.
func badRefs() []ref.Ref {
	out := []ref.Ref{2*mostWords + 1, 2*mostWords + 3, 2*mostIds + 2, 2*mostIds + 4, math.MaxUint64, math.MaxUint64 - 1, 1<<62 | 8193, 1<<63 | 5}
	for bit := 24; bit < 64; bit++ {
		out = append(out, 1<<bit, 1<<bit|1, 1<<bit|2, 1<<bit|3)
	}
	return out
}

// headerOf is the header word of an object.
func headerOf(sh api.Shape, site, age int, isLarge bool) uint64 {
	w := 1<<62 + uint64(sh.Pointers) + uint64(sh.Raws)<<12 + uint64(site)<<24 + uint64(age)<<29
	if isLarge {
		w += 1 << 32
	}
	return w
}

// read is what a header word tells.
func read(w uint64) api.Header {
	return api.Header{Shape: sh(int(w%4096), int(w>>12%4096)), Site: int(w >> 24 % 32), Age: int(w >> 29 % 8), Large: w>>32&1 == 1}
}

// aged is the header word of an object after one more collection.
func aged(w uint64) uint64 {
	if w>>29%8 == mostAge {
		return w
	}
	return w + 1<<29
}

// sizeOf is how many words an object has.
func sizeOf(w uint64) int { return 1 + int(w%4096) + int(w>>12%4096) }

// big is a large object.
type big struct {
	id     int
	words  []uint64
	marked bool
}

// model does as the chapter says.
type model struct {
	now, old []uint64    // allocated words of either space
	size     int         // words of the current space
	oldSize  int         // words of the old one
	turning  bool        // whether there is one
	to       map[int]int // where the small objects are that were moved
	bigs     []big       // in the order of All
	met      []api.Header
	moved    int

	// The references that a call may be made for are those to objects that are
	// there, or were there when Begin was called.
	refs []ref.Ref
}

// begin is told whether the Mem has room for a space.
func (m *model) begin(full bool) api.Errno {
	switch {
	case m.turning:
		return api.ErrArg
	case full:
		return api.ErrFull
	}
	m.old, m.oldSize, m.turning = m.now, m.size, true
	m.now, m.size = nil, len(m.old)
	m.to = map[int]int{}
	var marked, others []big
	for _, x := range m.bigs {
		if x.marked {
			x.marked = false
			marked = append(marked, x)
		} else {
			others = append(others, x)
		}
	}
	m.bigs = append(others, marked...)
	return api.OK
}

// move returns how many steps it takes at least and at most, too.
func (m *model) move(r ref.Ref) (to ref.Ref, least, most int) {
	switch {
	case r == 0:
		return 0, 0, 0
	case r%2 == 0:
		return m.mark(r)
	}
	at := int(r / 2)
	if to, is := m.to[at]; is {
		return ref.Ref(2*to + 1), 1, 1
	}
	w, n := m.old[at], sizeOf(m.old[at])
	index := len(m.now)
	m.now = append(append(m.now, aged(w)), m.old[at+1:at+n]...)
	// Objects that were made meanwhile have some of the room.
	m.size = max(m.size, len(m.now))
	m.old[at] = 1<<63 + uint64(index)
	m.to[at] = index
	m.moved++
	m.met = append(m.met, read(aged(w)))
	return ref.Ref(2*index + 1), 2*n + 3, 2*n + 3
}

func (m *model) mark(r ref.Ref) (to ref.Ref, least, most int) {
	i := m.big(r)
	if m.bigs[i].marked {
		return r, 0, 2
	}
	x := m.bigs[i]
	x.marked = true
	x.words[0] = aged(x.words[0])
	// Behind all that are marked.
	m.bigs = slices.Delete(m.bigs, i, i+1)
	last := slices.IndexFunc(m.bigs, func(x big) bool { return !x.marked })
	if last < 0 {
		last = len(m.bigs)
	}
	m.bigs = slices.Insert(m.bigs, last, x)
	m.moved++
	m.met = append(m.met, read(x.words[0]))
	return r, 0, 18
}

// big returns where a large object stands.
func (m *model) big(r ref.Ref) int {
	return slices.IndexFunc(m.bigs, func(x big) bool { return x.id == int(r/2) })
}

func (m *model) find(r ref.Ref) ref.Ref {
	switch {
	case r == 0:
		return 0
	case r%2 == 1:
		if to, is := m.to[int(r/2)]; is {
			return ref.Ref(2*to + 1)
		}
	case m.bigs[m.big(r)].marked:
		return r
	}
	return 0
}

// add is told the reference to an object that was made.
func (m *model) add(r ref.Ref, words []uint64) {
	if r%2 == 1 {
		m.now = append(m.now, words...)
		m.size = max(m.size, len(m.now))
		return
	}
	last := slices.IndexFunc(m.bigs, func(x big) bool { return !x.marked })
	if last < 0 {
		last = len(m.bigs)
	}
	m.bigs = slices.Insert(m.bigs, last, big{id: int(r / 2), words: words, marked: true})
}

// end leaves the objects that were moved or marked, and returns how many words
// of others there were.
func (m *model) end() int {
	m.old, m.oldSize, m.turning = nil, 0, false
	m.refs = nil
	for at := 0; at < len(m.now); at += sizeOf(m.now[at]) {
		m.refs = append(m.refs, ref.Ref(2*at+1))
	}
	gone := 0
	m.bigs = slices.DeleteFunc(m.bigs, func(x big) bool {
		if !x.marked {
			gone += len(x.words)
		}
		return !x.marked
	})
	for _, x := range m.bigs {
		m.refs = append(m.refs, ref.Ref(2*x.id))
	}
	return gone
}

// tell is all that a Mover and its Store should tell, beside their steps.
func (m *model) tell() string {
	var b strings.Builder
	fmt.Fprint(&b, m.moved, m.met, m.size, m.turning, m.now, m.old)
	for _, x := range m.bigs {
		fmt.Fprint(&b, "|", x.id, x.marked, x.words)
	}
	return b.String()
}

// pair is a Mover of a Store, and a model on which the same calls are made.
type pair struct {
	s    *store.Store
	got  *evac.Mover
	met  []api.Header
	want model
}

func newPair(t *testing.T, small, words int) *pair {
	t.Helper()
	s, e := store.New(small, words)
	if e != api.OK {
		t.Fatalf("New(%d, %d): error %d", small, words, e)
	}
	p := &pair{s: s, want: model{size: words}}
	p.got = evac.New(s, func(h api.Header) { p.met = append(p.met, h) })
	return p
}

// make makes an object whose words are all written, unless the store is full,
// and returns its reference. Pointers refer to any objects.
func (p *pair) make(t *testing.T, seed *noise, pointers, raws, site int) ref.Ref {
	t.Helper()
	r, e := p.s.Make(sh(pointers, raws), site)
	if e != api.OK {
		t.Fatalf("Make(%d, %d): error %d", pointers, raws, e)
	}
	words := []uint64{headerOf(sh(pointers, raws), site, 0, r%2 == 0)}
	for at := 1; at <= pointers+raws; at++ {
		w := seed.word()
		if at <= pointers {
			w = 0
			if n := len(p.want.refs); n > 0 && seed.below(4) > 0 {
				w = uint64(p.want.refs[seed.below(n)])
			}
		}
		words = append(words, w)
		if e := p.s.SetWord(r, at, w); e != api.OK {
			t.Fatalf("SetWord(%d, %d): error %d", r, at, e)
		}
	}
	p.want.add(r, words)
	if !p.want.turning {
		p.want.refs = append(p.want.refs, r)
	}
	return r
}

// setHeader writes the first word of an object.
func (p *pair) setHeader(t *testing.T, r ref.Ref, w uint64) {
	t.Helper()
	if e := p.s.SetWord(r, 0, w); e != api.OK {
		t.Fatalf("SetWord(%d): error %d", r, e)
	}
	if r%2 == 1 {
		p.want.now[r/2] = w
	} else {
		p.want.bigs[p.want.big(r)].words[0] = w
	}
}

// tell is all that a Mover and its Store tell, beside their steps.
func (p *pair) tell() string {
	var b strings.Builder
	x, l := p.s.Semi(), p.s.Large()
	fmt.Fprint(&b, p.got.Moved(), p.met, x.Size(), x.Turning(), wordsOf(x.Top(), x.Read), wordsOf(x.OldTop(), x.ReadOld))
	for id := range l.All() {
		size, _ := l.Size(id)
		marked, _ := l.Marked(id)
		fmt.Fprint(&b, "|", id, marked, wordsOf(size, func(at int) (uint64, api.Errno) { return l.Read(id, at) }))
	}
	return b.String()
}

func wordsOf(n int, read func(at int) (uint64, api.Errno)) []uint64 {
	var out []uint64
	for at := range n {
		w, _ := read(at)
		out = append(out, w)
	}
	return out
}

func (p *pair) check(t *testing.T, call string, args ...any) {
	t.Helper()
	if got, want := p.tell(), p.want.tell(); got != want {
		t.Fatalf("%s%v:\n%s, not\n%s", call, args, got, want)
	}
	if p.got.Store() != p.s {
		t.Fatalf("%s%v: another Store", call, args)
	}
}

// counted is what a Mem tells beside its words.
func counted(m *mem.Mem) string {
	return fmt.Sprint(m.Of(meter.Reads), m.Of(meter.Writes), m.Held(), m.High(), m.Spaces())
}

// steps returns how many steps a call takes.
func steps(m *mem.Mem, call func()) int {
	before := m.Steps()
	call()
	return int(m.Since(before).Lo)
}

// due fails unless a call takes from least to most steps, and so many words more
// are in use after it.
func (p *pair) due(t *testing.T, least, most, held int, call func(), name string, args ...any) {
	t.Helper()
	m := p.s.Mem()
	before := m.Held()
	if n := steps(m, call); n < least || n > most {
		t.Fatalf("%s%v: %d steps, not %d to %d", name, args, n, least, most)
	}
	if m.Held() != before+held {
		t.Fatalf("%s%v: %d words in use, not %d", name, args, m.Held(), before+held)
	}
}

func (p *pair) begin(t *testing.T) api.Errno {
	t.Helper()
	want, held := p.want.begin(p.s.Mem().Spaces() == mostSpaces), 0
	if want == api.OK {
		held = p.want.size
	}
	p.due(t, 0, 2, held, func() {
		if e := p.got.Begin(); e != want {
			t.Fatalf("Begin: error %d, not %d", e, want)
		}
	}, "Begin")
	return want
}

// must begins a collection, which is not to fail.
func (p *pair) must(t *testing.T) {
	t.Helper()
	if e := p.begin(t); e != api.OK {
		t.Fatalf("Begin: error %d", e)
	}
}

func (p *pair) move(t *testing.T, r ref.Ref) ref.Ref {
	t.Helper()
	size := p.want.size
	want, least, most := p.want.move(r)
	p.due(t, least, most, p.want.size-size, func() {
		if to := p.got.Move(r); to != want {
			t.Fatalf("Move(%d): %d, not %d", r, to, want)
		}
	}, "Move", r)
	return want
}

func (p *pair) find(t *testing.T, r ref.Ref) ref.Ref {
	t.Helper()
	want := p.want.find(r)
	p.due(t, 0, 2, 0, func() {
		if to := p.got.Find(r); to != want {
			t.Fatalf("Find(%d): %d, not %d", r, to, want)
		}
	}, "Find", r)
	return want
}

// ask fails unless the calls that tell of the Mover take no step.
func (p *pair) ask(t *testing.T) {
	t.Helper()
	p.due(t, 0, 0, 0, func() {
		if p.got.Moved() != p.want.moved || p.got.Store() != p.s {
			t.Fatalf("Moved: %d, not %d", p.got.Moved(), p.want.moved)
		}
	}, "asking")
}

// end ends a collection: what was neither moved nor marked is gone.
func (p *pair) end(t *testing.T) {
	t.Helper()
	if e := p.s.Semi().End(); e != api.OK {
		t.Fatalf("End: error %d", e)
	}
	_, words := p.s.Large().Sweep()
	if gone := p.want.end(); words != gone {
		t.Fatalf("Sweep: %d words, not %d", words, gone)
	}
}

// grow makes objects of few words, so many, for which there is room.
func (p *pair) grow(t *testing.T, seed *noise, count int) {
	t.Helper()
	for range count {
		pointers, raws := seed.below(4), seed.below(6)
		if short := 1 + pointers + raws - p.s.Semi().Room(); short > 0 {
			size := p.s.Semi().Size() + short
			p.s.Semi().Resize(size)
			p.want.size = size
		}
		p.make(t, seed, pointers, raws, seed.below(32))
	}
}

// some returns a reference for which a call may be made.
func (p *pair) some(seed *noise) ref.Ref {
	n := len(p.want.refs)
	if n == 0 || seed.below(12) == 0 {
		return ref.Nil
	}
	return p.want.refs[seed.below(n)]
}

// run goes through collections that follow no short rule, and tells check of
// each call.
func (p *pair) run(t *testing.T, seed noise, rounds int, check func(call string, e api.Errno)) {
	t.Helper()
	for range rounds {
		p.grow(t, &seed, seed.below(12))
		check("Make", api.OK)
		check("Begin", p.begin(t))
		// At times few objects are moved, at times all of them, and more often.
		for range seed.below(4 * (1 + len(p.want.refs))) {
			switch n := seed.below(20); {
			case n < 10:
				p.move(t, p.some(&seed))
				check("Move", api.OK)
			case n < 17:
				p.find(t, p.some(&seed))
				check("Find", api.OK)
			case n < 18:
				check("Begin", p.begin(t))
			case n < 19:
				p.ask(t)
				check("ask", api.OK)
			default:
				if seed.below(4) == 0 {
					p.grow(t, &seed, 1)
					check("Make", api.OK)
				}
			}
		}
		p.end(t)
		check("End", api.OK)
	}
}
