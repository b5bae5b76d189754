package store_test

import (
	"fmt"
	"math"
	"slices"
	"strings"
	"testing"

	"haymow/api"
	"haymow/mem"
	"haymow/meter"
	"haymow/ref"
	"haymow/store"
)

// The chapters' bounds, written out.
const (
	leastSmall = 2
	mostSmall  = 64
	mostWords  = 4194304
	mostSpaces = 262144
	mostIds    = 1048576
	mostFields = 4095
	mostSite   = 31
)

// noise goes through numbers that follow no short rule, the same ones each time.
type noise uint64

func (s *noise) below(n int) int {
	*s = *s*6364136223846793005 + 1442695040888963407
	return int(uint64(*s)>>33) % n
}

// word returns one of 64 bits.
func (s *noise) word() uint64 {
	s.below(1)
	return uint64(*s) ^ uint64(*s)>>31
}

// some returns a number from -1 to n + 1, or at times a far one.
func (s *noise) some(n int) int {
	if s.below(20) == 0 {
		return far()[s.below(len(far()))]
	}
	return s.below(n+3) - 1
}

// far are numbers of no word, no field, no site and no object, of which some
// would be when their upper bits are dropped, when their sign is, or when a
// small number is added that makes them overflow.
func far() []int {
	out := []int{math.MinInt, math.MinInt + 1, math.MinInt + 2, math.MinInt + 5, math.MaxInt - 5, math.MaxInt - 2, math.MaxInt - 1, math.MaxInt}
	for bit := 23; bit < 63; bit++ {
		p := 1 << bit
		out = append(out, p-1, p, p+1, p+2, p+5, -p-1, -p, 1-p, 2-p)
	}
	return out
}

// badRefs are words that refer to nothing and are not nil.
func badRefs() []ref.Ref {
	out := []ref.Ref{2*mostWords + 1, 2*mostWords + 3, 2*mostIds + 2, 2*mostIds + 4, math.MaxUint64, math.MaxUint64 - 1, 1 << 50, 1<<62 | 8193, 1<<63 | 5}
	for bit := 24; bit < 64; bit++ {
		out = append(out, 1<<bit, 1<<bit|1, 1<<bit|2, 1<<bit|3)
	}
	return out
}

// kindOf tells what a word refers to, and the index or the number.
func kindOf(r ref.Ref) (ref.Kind, int) {
	switch {
	case r == 0:
		return ref.Nothing, 0
	case r&1 == 1 && r>>1 < mostWords:
		return ref.Small, int(r >> 1)
	case r&1 == 0 && r>>1 <= mostIds:
		return ref.Large, int(r >> 1)
	}
	return ref.Bad, 0
}

// headerOf is the header word of an object.
func headerOf(sh api.Shape, site, age int, isLarge bool) uint64 {
	w := 1<<62 + uint64(sh.Pointers) + uint64(sh.Raws)<<12 + uint64(site)<<24 + uint64(age)<<29
	if isLarge {
		w += 1 << 32
	}
	return w
}

// read is what a word tells as a header.
func read(w uint64) (api.Header, api.Errno) {
	if w>>33 != 1<<29 {
		return api.Header{}, api.ErrForm
	}
	return api.Header{
		Shape: api.Shape{Pointers: int(w % 4096), Raws: int(w >> 12 % 4096)},
		Site:  int(w >> 24 % 32),
		Age:   int(w >> 29 % 8),
		Large: w>>32&1 == 1,
	}, api.OK
}

// model does as the chapter says.
type model struct {
	small    int              // the most words of a small object
	size     int              // words of the current space
	words    []uint64         // allocated ones of the current space
	larges   map[int][]uint64 // by their numbers
	made     int              // numbers, all from 1 on
	returned []int            // numbers, in their order, those that were taken again left out
	starts   []ref.Ref        // all objects that there are, in the order in which they were made
}

func isRight(sh api.Shape) bool {
	return sh.Pointers >= 0 && sh.Pointers <= mostFields && sh.Raws >= 0 && sh.Raws <= mostFields
}

// make is told whether the Mem has room for a space.
func (m *model) make(sh api.Shape, site int, full bool) (ref.Ref, api.Errno) {
	switch {
	case !isRight(sh):
		return 0, api.ErrShape
	case site < 0 || site > mostSite:
		return 0, api.ErrSite
	}
	words := make([]uint64, 1+sh.Pointers+sh.Raws)
	isLarge := len(words) > m.small
	words[0] = headerOf(sh, site, 0, isLarge)
	var r ref.Ref
	switch {
	case isLarge && full, !isLarge && len(m.words)+len(words) > m.size:
		return 0, api.ErrFull
	case isLarge:
		id := m.number()
		m.larges[id] = words
		r = ref.Ref(2 * id)
	default:
		r = ref.Ref(2*len(m.words) + 1)
		m.words = append(m.words, words...)
	}
	m.starts = append(m.starts, r)
	return r, api.OK
}

// number is that of a large object.
func (m *model) number() int {
	if n := len(m.returned); n > 0 {
		id := m.returned[n-1]
		m.returned = m.returned[:n-1]
		return id
	}
	m.made++
	return m.made
}

// remove takes a large object out.
func (m *model) remove(r ref.Ref) {
	_, id := kindOf(r)
	delete(m.larges, id)
	m.returned = append(m.returned, id)
	m.starts = slices.DeleteFunc(m.starts, func(x ref.Ref) bool { return x == r })
}

// flip leaves a space of so many words, without small objects.
func (m *model) flip(size int) {
	m.size, m.words = size, nil
	m.starts = slices.DeleteFunc(m.starts, func(r ref.Ref) bool {
		kind, _ := kindOf(r)
		return kind == ref.Small
	})
}

// word returns the place of a word, or what is wrong with a call for it.
func (m *model) word(r ref.Ref, word int) (*uint64, api.Errno) {
	kind, at := kindOf(r)
	words := m.words
	switch kind {
	case ref.Nothing:
		return nil, api.ErrNil
	case ref.Bad:
		return nil, api.ErrForm
	case ref.Large:
		var is bool
		if words, is = m.larges[at]; !is {
			return nil, api.ErrNone
		}
		at = 0
	}
	for i := range words {
		// Subtracted, as the sum could overflow.
		if i-at == word {
			return &words[i], api.OK
		}
	}
	return nil, api.ErrBounds
}

func (m *model) header(r ref.Ref) (api.Header, api.Errno) {
	w, e := m.word(r, 0)
	if e != api.OK {
		return api.Header{}, e
	}
	return read(*w)
}

// pointer returns the place of a pointer, or what is wrong with a call for it.
func (m *model) pointer(r ref.Ref, pointer int) (*uint64, api.Errno) {
	h, e := m.header(r)
	switch {
	case e != api.OK:
		return nil, e
	case pointer < 0 || pointer >= h.Shape.Pointers:
		return nil, api.ErrIndex
	}
	return m.word(r, 1+pointer)
}

// raw returns the place of a raw word, or what is wrong with a call for it.
func (m *model) raw(r ref.Ref, raw int) (*uint64, api.Errno) {
	h, e := m.header(r)
	switch {
	case e != api.OK:
		return nil, e
	case raw < 0 || raw >= h.Shape.Raws:
		return nil, api.ErrIndex
	}
	return m.word(r, 1+h.Shape.Pointers+raw)
}

// tell is all that a Store should tell, beside its steps.
func (m *model) tell() string {
	var b strings.Builder
	words := 0
	for _, list := range m.larges {
		words += len(list)
	}
	fmt.Fprint(&b, m.small, m.size, len(m.words), len(m.larges), words, m.words)
	for id := 1; id <= m.made+1; id++ {
		list, is := m.larges[id]
		fmt.Fprint(&b, "|", is, list)
	}
	return b.String()
}

// pair is a Store and a model on which the same calls are made.
type pair struct {
	got  *store.Store
	want model
}

func newPair(t *testing.T, small, words int) *pair {
	t.Helper()
	s, e := store.New(small, words)
	if e != api.OK || s == nil {
		t.Fatalf("New(%d, %d): %v, error %d", small, words, s, e)
	}
	return &pair{got: s, want: model{small: small, size: words, larges: map[int][]uint64{}}}
}

// tell is all that a Store tells, beside its steps.
func (p *pair) tell() string {
	s := p.got
	var b strings.Builder
	var words []uint64
	for at := range s.Semi().Top() {
		w, _ := s.Semi().Read(at)
		words = append(words, w)
	}
	fmt.Fprint(&b, s.Small(), s.Semi().Size(), s.Semi().Top(), s.Large().Count(), s.Large().Words(), words)
	for id := 1; id <= p.want.made+1; id++ {
		size, e := s.Large().Size(id)
		var words []uint64
		for at := range size {
			w, _ := s.Large().Read(id, at)
			words = append(words, w)
		}
		fmt.Fprint(&b, "|", e == api.OK, words)
	}
	return b.String()
}

func (p *pair) check(t *testing.T, call string, args ...any) {
	t.Helper()
	if got, want := p.tell(), p.want.tell(); got != want {
		t.Fatalf("%s%v:\n%s, not\n%s", call, args, got, want)
	}
}

// counted is what a Mem tells beside its words.
func counted(m *mem.Mem) string {
	return fmt.Sprint(m.Of(meter.Reads), m.Of(meter.Writes), m.Held(), m.High(), m.Spaces())
}

// steps returns how many steps a call takes.
func steps(m *mem.Mem, call func()) int {
	before := m.Steps()
	call()
	return int(m.Since(before).Lo)
}

// due fails unless a call for a reference takes as many steps as it may: at
// least one if its object exists, none for Nil and Bad references.
func (p *pair) due(t *testing.T, r ref.Ref, call func(), name string, args ...any) {
	t.Helper()
	least, most := 0, 8
	if kind, _ := kindOf(r); kind == ref.Nothing || kind == ref.Bad {
		most = 0
	} else if slices.Contains(p.want.starts, r) {
		least = 1
	}
	if got := steps(p.got.Mem(), call); got < least || got > most {
		t.Fatalf("%s%v: %d steps, not %d to %d", name, args, got, least, most)
	}
}

// same fails unless both made the same of a call.
func same[T comparable](t *testing.T, call string, got T, e api.Errno, want T, f api.Errno, args ...any) {
	t.Helper()
	if got != want || e != f {
		t.Fatalf("%s%v: %v, error %d, not %v, error %d", call, args, got, e, want, f)
	}
}

// held returns what is at a place, or 0 if there is none.
func held(place *uint64) uint64 {
	if place == nil {
		return 0
	}
	return *place
}

// put stores w at a place, if there is one.
func put(place *uint64, w uint64) {
	if place != nil {
		*place = w
	}
}

// make returns the reference to an object, or Nil.
func (p *pair) make(t *testing.T, sh api.Shape, site int) (ref.Ref, api.Errno) {
	t.Helper()
	want, f := p.want.make(sh, site, p.got.Mem().Spaces() == mostSpaces)
	n := steps(p.got.Mem(), func() {
		got, e := p.got.Make(sh, site)
		same(t, "Make", got, e, want, f, sh, site)
	})
	if n > 30 || n < 1 && f == api.OK {
		t.Fatalf("Make%v: %d steps", sh, n)
	}
	return want, f
}

// must makes an object, which is not to fail.
func (p *pair) must(t *testing.T, pointers, raws, site int) ref.Ref {
	t.Helper()
	r, e := p.make(t, api.Shape{Pointers: pointers, Raws: raws}, site)
	if e != api.OK {
		t.Fatalf("Make(%d, %d): error %d", pointers, raws, e)
	}
	return r
}

func (p *pair) word(t *testing.T, r ref.Ref, word int) api.Errno {
	t.Helper()
	place, f := p.want.word(r, word)
	p.due(t, r, func() {
		got, e := p.got.Word(r, word)
		same(t, "Word", got, e, held(place), f, r, word)
	}, "Word", r, word)
	return f
}

func (p *pair) setWord(t *testing.T, r ref.Ref, word int, w uint64) api.Errno {
	t.Helper()
	place, f := p.want.word(r, word)
	p.due(t, r, func() {
		same(t, "SetWord", 0, p.got.SetWord(r, word, w), 0, f, r, word, w)
	}, "SetWord", r, word, w)
	put(place, w)
	return f
}

func (p *pair) header(t *testing.T, r ref.Ref) api.Errno {
	t.Helper()
	want, f := p.want.header(r)
	p.due(t, r, func() {
		got, e := p.got.Header(r)
		same(t, "Header", got, e, want, f, r)
	}, "Header", r)
	return f
}

func (p *pair) pointer(t *testing.T, r ref.Ref, pointer int) api.Errno {
	t.Helper()
	place, f := p.want.pointer(r, pointer)
	p.due(t, r, func() {
		got, e := p.got.Pointer(r, pointer)
		same(t, "Pointer", got, e, ref.Ref(held(place)), f, r, pointer)
	}, "Pointer", r, pointer)
	return f
}

func (p *pair) setPointer(t *testing.T, r ref.Ref, pointer int, to ref.Ref) api.Errno {
	t.Helper()
	place, f := p.want.pointer(r, pointer)
	if kind, _ := kindOf(to); f == api.OK && kind == ref.Bad {
		place, f = nil, api.ErrForm
	}
	p.due(t, r, func() {
		same(t, "SetPointer", 0, p.got.SetPointer(r, pointer, to), 0, f, r, pointer, to)
	}, "SetPointer", r, pointer, to)
	put(place, uint64(to))
	return f
}

func (p *pair) raw(t *testing.T, r ref.Ref, raw int) api.Errno {
	t.Helper()
	place, f := p.want.raw(r, raw)
	p.due(t, r, func() {
		got, e := p.got.Raw(r, raw)
		same(t, "Raw", got, e, held(place), f, r, raw)
	}, "Raw", r, raw)
	return f
}

func (p *pair) setRaw(t *testing.T, r ref.Ref, raw int, w uint64) api.Errno {
	t.Helper()
	place, f := p.want.raw(r, raw)
	p.due(t, r, func() {
		same(t, "SetRaw", 0, p.got.SetRaw(r, raw, w), 0, f, r, raw, w)
	}, "SetRaw", r, raw, w)
	put(place, w)
	return f
}

// sweep removes all large objects but those that are to stay.
func (p *pair) sweep(t *testing.T, stay ...ref.Ref) {
	t.Helper()
	l := p.got.Large()
	l.Begin()
	for _, r := range p.want.starts {
		if slices.Contains(stay, r) && r&1 == 0 {
			l.Mark(int(r >> 1))
		}
	}
	// They are removed in the order of All, behind those that stay.
	for id := range l.All() {
		if r := ref.Ref(2 * id); !slices.Contains(stay, r) {
			p.want.remove(r)
		}
	}
	l.Sweep()
}

// resize gives the space of small objects so many words, if it has fewer.
func (p *pair) resize(t *testing.T, words int) {
	t.Helper()
	if e := p.got.Semi().Resize(words); e != api.OK {
		t.Fatalf("Resize(%d): error %d", words, e)
	}
	p.want.size = max(p.want.size, words)
}

// flip removes all small objects, and leaves a space of so many words.
func (p *pair) flip(t *testing.T, words int) {
	t.Helper()
	if e := p.got.Semi().Flip(words); e != api.OK {
		t.Fatalf("Flip(%d): error %d", words, e)
	}
	if e := p.got.Semi().End(); e != api.OK {
		t.Fatalf("End: error %d", e)
	}
	p.want.flip(words)
}

// fill writes each field of an object by its methods, so that no two words of
// the run are alike.
func (p *pair) fill(t *testing.T, r ref.Ref, mark int) {
	t.Helper()
	h, _ := p.want.header(r)
	for i := range h.Shape.Pointers {
		if e := p.setPointer(t, r, i, ref.Ref(2*(mark*100+i)+1)); e != api.OK {
			t.Fatalf("SetPointer(%d, %d): error %d", r, i, e)
		}
	}
	for i := range h.Shape.Raws {
		if e := p.setRaw(t, r, i, uint64(mark)<<40+uint64(i)); e != api.OK {
			t.Fatalf("SetRaw(%d, %d): error %d", r, i, e)
		}
	}
}
