package evac_test

import (
	"fmt"
	"math"
	"reflect"
	"slices"
	"testing"

	"haymow/api"
	"haymow/evac"
	"haymow/ref"
	"haymow/store"
)

// The calls have these signatures exactly.
var (
	_ func(*store.Store, func(api.Header)) *evac.Mover = evac.New
	_ func(*evac.Mover) *store.Store                   = (*evac.Mover).Store
	_ func(*evac.Mover) int                            = (*evac.Mover).Moved
	_ func(*evac.Mover) api.Errno                      = (*evac.Mover).Begin
	_ func(*evac.Mover, ref.Ref) ref.Ref               = (*evac.Mover).Move
	_ func(*evac.Mover, ref.Ref) ref.Ref               = (*evac.Mover).Find
)

// The example of the chapter.
func TestExample(t *testing.T) {
	s, _ := store.New(8, 100)
	s.Make(sh(0, 2), 0)
	b, _ := s.Make(sh(0, 2), 0)
	m := evac.New(s, nil)
	if e := m.Begin(); e != api.OK {
		t.Fatalf("Begin: error %d", e)
	}
	for range 2 {
		if r := m.Move(b); r != 1 || r.Kind() != ref.Small || r.At() != 0 {
			t.Errorf("Move: %d", r)
		}
	}
}

// P20.1

func TestNew(t *testing.T) {
	s, _ := store.New(8, 100)
	s.Make(sh(1, 1), 3)
	s.Make(sh(1, 9), 3)
	met := 0
	before := counted(s.Mem())
	for _, f := range []func(api.Header){nil, func(api.Header) { met++ }} {
		m := evac.New(s, f)
		if m == nil || m.Store() != s || m.Moved() != 0 {
			t.Fatalf("New: %v", m)
		}
	}
	if now := counted(s.Mem()); now != before || met != 0 || s.Semi().Turning() {
		t.Errorf("New: %s, not %s, %d met", now, before, met)
	}
	a, b := evac.New(s, nil), evac.New(s, nil)
	if a == b {
		t.Errorf("New returns the same Mover again")
	}
}

// The new space has just as many words as were allocated, whatever the size of
// the old one, and the marked large objects stand behind all others.
func TestBegin(t *testing.T) {
	for words := range 8 {
		for room := range 4 {
			p := newPair(t, 8, words+room)
			var seed noise
			for n := words; n > 0; n -= min(n, 3) {
				p.make(t, &seed, 0, min(n, 3)-1, 5)
			}
			for range room {
				p.make(t, &seed, 2, 9, 7)
			}
			p.check(t, "Make", words, room)
			p.must(t)
			p.check(t, "Begin", words, room)
			x := p.s.Semi()
			if x.Size() != words || x.Top() != 0 || x.OldTop() != words || !x.Turning() || p.got.Moved() != 0 || len(p.met) != 0 {
				t.Errorf("Begin with %d words: Size %d, Top %d, OldTop %d, Turning %v, Moved %d, %v met", words, x.Size(), x.Top(), x.OldTop(), x.Turning(), p.got.Moved(), p.met)
			}
			for id := range p.s.Large().All() {
				if is, e := p.s.Large().Marked(id); is || e != api.OK {
					t.Errorf("Marked(%d): %v, error %d", id, is, e)
				}
			}
		}
	}
}

// Begin unmarks as large.Begin does: the marked objects, in their order, behind
// all others.
func TestBeginInOrder(t *testing.T) {
	p := newPair(t, 4, 0)
	var seed noise
	for range 5 {
		p.make(t, &seed, 0, 9, 1)
	}
	p.must(t)
	p.move(t, 8)
	p.move(t, 4)
	p.s.Semi().End()
	p.want.turning, p.want.old = false, nil
	p.must(t)
	p.check(t, "Begin")
	if got := slices.Collect(p.s.Large().All()); !slices.Equal(got, []int{1, 3, 5, 4, 2}) {
		t.Errorf("Begin: All %v", got)
	}
}

// The error of semi.Flip, for an old space that anybody made. No large object is
// unmarked then.
func TestBeginOfOldSpace(t *testing.T) {
	p := newPair(t, 4, 20)
	var seed noise
	a, b := p.make(t, &seed, 1, 2, 3), p.make(t, &seed, 1, 20, 3)
	c := p.make(t, &seed, 1, 21, 3)
	p.must(t)
	p.move(t, b)
	for range 3 {
		if e := p.begin(t); e != api.ErrArg {
			t.Errorf("Begin: error %d", e)
		}
		if e := evac.New(p.s, nil).Begin(); e != api.ErrArg {
			t.Errorf("Begin of another Mover: error %d", e)
		}
		p.check(t, "Begin")
	}
	if p.find(t, a) != 0 || p.find(t, b) != b || p.find(t, c) != 0 {
		t.Errorf("Find after a Begin that failed")
	}
	p.move(t, a)
	p.end(t)
	p.check(t, "end")

	s, _ := store.New(4, 20)
	s.Make(sh(0, 9), 0)
	s.Semi().Flip(7)
	if e := evac.New(s, nil).Begin(); e != api.ErrArg || s.Semi().Size() != 7 {
		t.Errorf("Begin: error %d, Size %d", e, s.Semi().Size())
	}
	if is, _ := s.Large().Marked(1); !is {
		t.Errorf("a Begin that failed unmarks")
	}
}

func TestBeginWithoutASpace(t *testing.T) {
	p := newPair(t, 4, 20)
	var seed noise
	a, b := p.make(t, &seed, 1, 2, 3), p.make(t, &seed, 1, 20, 3)
	m := p.s.Mem()
	var last int
	for m.Spaces() < mostSpaces {
		last, _ = m.Open(0)
	}
	for range 2 {
		before := counted(m)
		if e := p.begin(t); e != api.ErrFull {
			t.Errorf("Begin: error %d", e)
		}
		if now := counted(m); now != before {
			t.Errorf("Begin: %s, not %s", now, before)
		}
		p.check(t, "Begin")
	}
	m.Close(last)
	p.must(t)
	// Turning is what is told first.
	if e := p.begin(t); e != api.ErrArg {
		t.Errorf("Begin: error %d", e)
	}
	p.move(t, a)
	p.move(t, b)
	p.check(t, "Move")
}

// What is moved in one collection after another is counted on, as nothing says
// that Begin does more than semi.Flip and large.Begin.
func TestMovedOverCollections(t *testing.T) {
	p := newPair(t, 4, 20)
	var seed noise
	p.make(t, &seed, 1, 1, 3)
	p.make(t, &seed, 1, 9, 3)
	for round := range 9 {
		p.must(t)
		for i, r := range slices.Clone(p.want.refs) {
			p.move(t, r)
			p.move(t, r)
			if p.got.Moved() != 2*round+i+1 {
				t.Errorf("Moved: %d", p.got.Moved())
			}
		}
		p.end(t)
		p.check(t, "end", round)
	}
	if m := evac.New(p.s, nil); m.Moved() != 0 {
		t.Errorf("Moved of a new Mover: %d", m.Moved())
	}
}

// P20.2

// What is left of objects, and what they become, in words that are written out.
func TestMoveInWords(t *testing.T) {
	s, _ := store.New(5, 20)
	for _, c := range []struct {
		sh   api.Shape
		site int
		r    ref.Ref
	}{{sh(1, 2), 3, 1}, {sh(0, 0), 31, 9}, {sh(2, 0), 0, 11}, {sh(3, 2), 4, 2}} {
		if r, e := s.Make(c.sh, c.site); r != c.r || e != api.OK {
			t.Fatalf("Make: %d, error %d", r, e)
		}
	}
	s.SetWord(1, 1, 9)
	s.SetWord(1, 2, 77)
	s.SetWord(1, 3, 0x8000000000000001)
	s.SetWord(11, 1, 2)
	s.SetWord(11, 2, 11)
	s.SetWord(2, 1, 11)
	s.SetWord(2, 5, 0x4000000000000000)
	s.SetWord(9, 0, 0x40000000df000000) // age 6
	var met []api.Header
	m := evac.New(s, func(h api.Header) { met = append(met, h) })
	m.Begin()
	for _, c := range []struct{ r, to ref.Ref }{{11, 1}, {9, 7}, {2, 2}, {1, 9}, {0, 0}, {11, 1}, {9, 7}, {2, 2}, {1, 9}} {
		if to := m.Move(c.r); to != c.to {
			t.Errorf("Move(%d): %d, not %d", c.r, to, c.to)
		}
	}
	for _, c := range []struct {
		name string
		read func(at int) (uint64, api.Errno)
		want []uint64
	}{
		{"the current space", s.Semi().Read, []uint64{0x4000000020000002, 2, 11, 0x40000000ff000000, 0x4000000023002001, 9, 77, 0x8000000000000001}},
		{"the old space", s.Semi().ReadOld, []uint64{0x8000000000000004, 9, 77, 0x8000000000000001, 0x8000000000000003, 0x8000000000000000, 2, 11}},
		{"the large object", func(at int) (uint64, api.Errno) { return s.Large().Read(1, at) }, []uint64{0x4000000124002003, 11, 0, 0, 0, 0x4000000000000000}},
	} {
		if got := wordsOf(len(c.want), c.read); !slices.Equal(got, c.want) {
			t.Errorf("%s: %x, not %x", c.name, got, c.want)
		}
	}
	want := []api.Header{
		{Shape: sh(2, 0), Age: 1},
		{Site: 31, Age: 7},
		{Shape: sh(3, 2), Site: 4, Age: 1, Large: true},
		{Shape: sh(1, 2), Site: 3, Age: 1},
	}
	if !slices.Equal(met, want) || m.Moved() != 4 || s.Semi().Top() != 8 {
		t.Errorf("%v met, not %v; Moved %d, Top %d", met, want, m.Moved(), s.Semi().Top())
	}
}

// Each shape of few fields, for each most words of a small object: it is moved
// or marked as it is small or large.
func TestMoveOfShapes(t *testing.T) {
	var seed noise
	for small := 2; small <= 64; small++ {
		p := newPair(t, small, 3000)
		for pointers := range 5 {
			for raws := range 5 {
				p.make(t, &seed, pointers, raws, (small+5*pointers+raws)%32)
			}
		}
		for fields := small - 2; fields <= small+1; fields++ {
			for _, pointers := range []int{0, 1, fields / 2, fields} {
				p.make(t, &seed, pointers, max(0, fields-pointers), fields%32)
			}
		}
		p.must(t)
		for _, r := range p.want.refs {
			if to := p.move(t, r); to == 0 || to%2 != r%2 || to%2 == 0 && to != r {
				t.Errorf("small %d: Move(%d): %d", small, r, to)
			}
		}
		p.check(t, "Move", small)
		for _, r := range p.want.refs {
			p.move(t, r)
			p.find(t, r)
		}
		p.check(t, "Move again", small)
	}
}

// Each header there can be of a site and an age, of a small object and of a
// large one.
func TestMoveOfHeaders(t *testing.T) {
	for site := range 32 {
		p := newPair(t, 4, 40)
		var seed noise
		for age := range mostAge + 1 {
			for _, raws := range []int{0, 1, 4} {
				r := p.make(t, &seed, 0, raws, site)
				p.setHeader(t, r, headerOf(sh(0, raws), site, age, raws == 4))
			}
		}
		p.must(t)
		for i, r := range p.want.refs {
			p.move(t, r)
			want := api.Header{Shape: sh(0, []int{0, 1, 4}[i%3]), Site: site, Age: min(7, i/3+1), Large: i%3 == 2}
			if got := p.met[i]; got != want {
				t.Errorf("met: %v, not %v", got, want)
			}
		}
		p.check(t, "Move", site)
	}
}

// The greatest objects are marked, and none of their words but the first one is
// another one then.
func TestMoveOfGreatestObjects(t *testing.T) {
	p := newPair(t, 64, 200)
	var seed noise
	for _, c := range []api.Shape{sh(0, mostFields), sh(mostFields, 0), sh(mostFields, mostFields), sh(64, 0), sh(0, 64), sh(63, 0), sh(0, 63), sh(31, 32)} {
		p.make(t, &seed, c.Pointers, c.Raws, 9)
	}
	p.must(t)
	for _, r := range p.want.refs {
		p.move(t, r)
		p.move(t, r)
	}
	p.check(t, "Move")
}

// orders calls do with each order of the numbers below n.
func orders(n int, do func(list []int)) {
	var from func(list []int)
	from = func(list []int) {
		if len(list) == n {
			do(list)
			return
		}
		for i := range n {
			if !slices.Contains(list, i) {
				from(append(slices.Clone(list), i))
			}
		}
	}
	from(nil)
}

// Objects are moved in each order, and each is asked for again, ahead of the
// next move and behind it.
func TestMoveInEachOrder(t *testing.T) {
	orders(6, func(list []int) {
		p := newPair(t, 4, 10)
		var seed noise
		for _, raws := range []int{2, 0, 9, 3, 5, 1} {
			p.make(t, &seed, 0, raws, raws)
		}
		p.must(t)
		for n, i := range list {
			p.move(t, p.want.refs[i])
			for _, k := range list[:n+1] {
				p.move(t, p.want.refs[k])
			}
			for _, r := range p.want.refs {
				p.find(t, r)
			}
		}
		p.check(t, "Move", list)
	})
}

// The large objects are told by Grey in the order in which they were marked.
func TestMoveOfLargeInOrder(t *testing.T) {
	orders(4, func(list []int) {
		p := newPair(t, 4, 10)
		var seed noise
		for range 4 {
			p.make(t, &seed, 0, 9, 1)
		}
		p.must(t)
		for _, i := range list {
			p.move(t, p.want.refs[i])
			p.move(t, p.want.refs[list[0]])
		}
		for _, i := range list {
			if id, ok := p.s.Large().Grey(); id != i+1 || !ok {
				t.Errorf("%v: Grey: %d, %v", list, id, ok)
			}
		}
		p.check(t, "Move", list)
	})
}

// An object that somebody else marked is not older, and nobody is told of it.
func TestMoveOfMarkedObject(t *testing.T) {
	p := newPair(t, 4, 10)
	var seed noise
	a, b := p.make(t, &seed, 1, 9, 1), p.make(t, &seed, 2, 9, 2)
	p.must(t)
	p.s.Large().Mark(2)
	p.want.bigs[0], p.want.bigs[1] = p.want.bigs[1], p.want.bigs[0]
	p.want.bigs[0].marked = true
	if p.find(t, a) != 0 || p.find(t, b) != b {
		t.Errorf("Find: %d, %d", p.got.Find(a), p.got.Find(b))
	}
	p.move(t, b)
	p.move(t, a)
	p.move(t, b)
	p.check(t, "Move")
}

// Nil is moved nowhere, at any time.
func TestNil(t *testing.T) {
	p := newPair(t, 4, 10)
	var seed noise
	p.make(t, &seed, 1, 1, 1)
	p.make(t, &seed, 1, 9, 1)
	for range 3 {
		p.must(t)
		for _, r := range slices.Clone(p.want.refs) {
			p.move(t, ref.Nil)
			p.find(t, ref.Nil)
			p.check(t, "Nil")
			p.move(t, r)
		}
		p.end(t)
	}
}

// Whether a Mover tells of the objects or not, all else is the same.
func TestNobodyIsTold(t *testing.T) {
	for seed := range noise(6) {
		p := newPair(t, 2+int(seed), 30)
		p.got = evac.New(p.s, nil)
		p.run(t, 400+seed, 6, func(call string, e api.Errno) {
			p.met = p.want.met
			p.check(t, call, e)
		})
		if p.got.Moved() < 10 {
			t.Errorf("%d moved only", p.got.Moved())
		}
	}
}

// Who is told of an object finds it moved: its header, its words, where it was,
// and the count.
func TestMetAfterTheMove(t *testing.T) {
	s, _ := store.New(4, 20)
	var list []ref.Ref
	for i, raws := range []int{2, 9, 0, 3, 7} {
		r, _ := s.Make(sh(0, raws), i)
		for raw := range raws {
			s.SetRaw(r, raw, uint64(100*i+raw))
		}
		list = append(list, r)
	}
	var m *evac.Mover
	met := 0
	m = evac.New(s, func(h api.Header) {
		r := list[h.Site]
		to := m.Find(r)
		if got, e := s.Header(to); got != h || e != api.OK || h.Age != 1 {
			t.Errorf("site %d: Header(%d): %v, error %d, not %v", h.Site, to, got, e, h)
		}
		for raw := range h.Shape.Raws {
			if w, e := s.Raw(to, raw); w != uint64(100*h.Site+raw) || e != api.OK {
				t.Errorf("site %d: Raw(%d, %d): %d, error %d", h.Site, to, raw, w, e)
			}
		}
		if met++; m.Moved() != met || m.Move(r) != to || to == 0 {
			t.Errorf("site %d: Moved %d, not %d; Move %d, not %d", h.Site, m.Moved(), met, m.Move(r), to)
		}
	})
	m.Begin()
	for _, i := range []int{3, 1, 0, 4, 2} {
		m.Move(list[i])
	}
	if met != 5 || m.Moved() != 5 {
		t.Errorf("%d met, Moved %d", met, m.Moved())
	}
}

// Who is told of an object may have others moved.
func TestMoveWithinMet(t *testing.T) {
	s, _ := store.New(4, 30)
	var list, at []ref.Ref
	for i := range 12 {
		r, _ := s.Make(sh(0, 1+i%4), i)
		list = append(list, r)
	}
	var m *evac.Mover
	var met []int
	m = evac.New(s, func(h api.Header) {
		met = append(met, h.Site)
		for _, k := range []int{5 * h.Site, 5*h.Site + 1, h.Site} {
			at = append(at, m.Move(list[k%12]))
		}
	})
	m.Begin()
	if r := m.Move(list[1]); r != 1 || m.Moved() != 12 {
		t.Errorf("Move: %d, Moved %d", r, m.Moved())
	}
	slices.Sort(met)
	if want := []int{0, 1, 2, 3, 4, 5, 6, 7, 8, 9, 10, 11}; !slices.Equal(met, want) || len(at) != 36 {
		t.Errorf("%v met, %v", met, at)
	}
	if slices.Contains(at, ref.Nil) || s.Semi().Top() != 9*3 {
		t.Errorf("Move: %v, Top %d", at, s.Semi().Top())
	}
	for i, r := range list {
		if h, e := s.Header(m.Find(r)); h.Site != i || h.Age != 1 || e != api.OK {
			t.Errorf("object %d: %v, error %d", i, h, e)
		}
	}
}

// Objects that are made after Begin have room of those that are moved: all of
// these are moved nevertheless, and those that were made stay as they are.
func TestMoveWhereRoomIsTaken(t *testing.T) {
	for made := range 8 {
		p := newPair(t, 6, 20)
		var seed noise
		for i := range 5 {
			p.make(t, &seed, i%2, i%3+1, i)
		}
		p.must(t)
		top := p.want.size
		for i, r := range p.want.refs {
			if i < made {
				if e := p.s.Semi().Resize(top); e != api.OK {
					t.Fatalf("Resize: error %d", e)
				}
				p.grow(t, &seed, 1)
				p.check(t, "Make", made)
			}
			p.move(t, r)
			p.check(t, "Move", made)
		}
		p.end(t)
		p.check(t, "end", made)
	}
}

// Where a space of the most words has no room for them, an object is not moved,
// and stays as it is.
func TestMoveWithoutRoom(t *testing.T) {
	const count = mostWords / 64
	s, _ := store.New(64, mostWords)
	for range count {
		s.Make(sh(0, 63), 1)
	}
	met := 0
	m := evac.New(s, func(api.Header) { met++ })
	m.Begin()
	made, e := s.Make(sh(0, 1), 2)
	if made != 1 || e != api.OK {
		t.Fatalf("Make: %d, error %d", made, e)
	}
	for i := range count {
		want := ref.Ref(2*(2+64*i) + 1)
		if i == count-1 {
			want = ref.Nil
		}
		r := ref.Ref(128*i + 1)
		if to := m.Move(r); to != want || m.Find(r) != want || m.Move(r) != want {
			t.Fatalf("Move(%d): %d, Find %d, not %d", r, to, m.Find(r), want)
		}
	}
	if m.Moved() != count-1 || met != count-1 || s.Semi().Top() != mostWords-62 {
		t.Errorf("Moved %d, %d met, Top %d", m.Moved(), met, s.Semi().Top())
	}
	if w, e := s.Semi().ReadOld(mostWords - 64); w != headerOf(sh(0, 63), 1, 0, false) || e != api.OK {
		t.Errorf("the object that was not moved: %x, error %d", w, e)
	}
}

// P20.3

// Find tells of each object what Move tells, and of none that was not moved.
func TestFind(t *testing.T) {
	p := newPair(t, 4, 100)
	var seed noise
	p.grow(t, &seed, 30)
	p.must(t)
	where := map[ref.Ref]ref.Ref{}
	for len(where) < 30 {
		r := p.some(&seed)
		if r == ref.Nil {
			continue
		}
		where[r] = p.got.Move(r)
		for _, x := range p.want.refs {
			if to := p.got.Find(x); to != where[x] {
				t.Fatalf("Find(%d): %d, not %d", x, to, where[x])
			}
		}
	}
}

// A word is no forwarding word of an object though it looks like one, unless it
// is its first one; and what is moved looks like nothing else.
func TestFindOfTellingWords(t *testing.T) {
	p := newPair(t, 8, 100)
	var seed noise
	for range 10 {
		r := p.make(t, &seed, 0, 3, 1)
		for raw := range 3 {
			w := uint64(1<<63) + uint64(raw)
			p.s.SetRaw(r, raw, w)
			p.want.now[int(r/2)+1+raw] = w
		}
	}
	p.must(t)
	for _, r := range p.want.refs {
		if p.find(t, r) != 0 {
			t.Errorf("Find(%d): %d", r, p.got.Find(r))
		}
		p.move(t, r)
		p.find(t, r)
	}
	p.check(t, "Move")
}

// Find changes nothing, neither of what was moved nor of what is still to be.
func TestFindHasNoEffect(t *testing.T) {
	p := newPair(t, 4, 50)
	var seed noise
	p.grow(t, &seed, 12)
	p.must(t)
	for _, r := range p.want.refs {
		before := p.tell()
		for range 2 {
			for _, x := range p.want.refs {
				p.got.Find(x)
			}
			p.got.Find(ref.Nil)
		}
		if now := p.tell(); now != before {
			t.Fatalf("Find: %s, not %s", now, before)
		}
		p.check(t, "Find")
		p.move(t, r)
	}
}

// P20.4: beside what each call of a pair is held against.

// The steps for small objects are exact, for each number of words, those for
// large ones do not depend on it.
func TestSteps(t *testing.T) {
	s, _ := store.New(64, 64*65/2)
	var small, large []ref.Ref
	for n := 1; n <= 64; n++ {
		r, _ := s.Make(sh(n/2, n-1-n/2), 0)
		small = append(small, r)
		r, _ = s.Make(sh(64, 50*n), 0)
		large = append(large, r)
	}
	m := evac.New(s, nil)
	x := s.Mem()
	due := func(name string, i, least, most int, call func()) {
		t.Helper()
		if n := steps(x, call); n < least || n > most {
			t.Errorf("%s of object %d: %d steps, not %d to %d", name, i, n, least, most)
		}
	}
	due("Begin", 0, 0, 2, func() { m.Begin() })
	due("Begin", 0, 0, 2, func() { m.Begin() })
	for i := range small {
		due("Find", i, 0, 2, func() { m.Find(small[i]) })
		due("Move", i, 2*(i+1)+3, 2*(i+1)+3, func() { m.Move(small[i]) })
		due("Move", i, 1, 1, func() { m.Move(small[i]) })
		due("Find", i, 0, 2, func() { m.Find(small[i]) })
		due("Find", i, 0, 2, func() { m.Find(large[i]) })
		due("Move", i, 0, 18, func() { m.Move(large[i]) })
		due("Move", i, 0, 2, func() { m.Move(large[i]) })
		due("Find", i, 0, 2, func() { m.Find(large[i]) })
		due("Move of Nil", i, 0, 0, func() { m.Move(ref.Nil) })
		due("Find of Nil", i, 0, 2, func() { m.Find(ref.Nil) })
	}
	s.Semi().End()
	due("Begin", 0, 0, 2, func() { m.Begin() })
}

// P20.5

// Long runs of collections, with all words and steps.
func TestRuns(t *testing.T) {
	seen := map[string]int{}
	most, oldest := 0, 0
	for seed := range noise(25) {
		p := newPair(t, 2+int(seed)%6, 5+int(seed))
		p.run(t, seed, 25, func(call string, e api.Errno) {
			seen[fmt.Sprint(call, " ", e)]++
			most = max(most, len(p.want.refs))
			p.check(t, call, e)
		})
		for _, h := range p.met {
			if h.Age == mostAge {
				oldest++
			}
		}
	}
	for _, call := range []string{"Begin 0", "Begin 1", "Move 0", "Find 0", "Make 0", "ask 0", "End 0"} {
		if seen[call] < 50 {
			t.Errorf("%s: %d times only", call, seen[call])
		}
	}
	if most < 20 || oldest < 20 {
		t.Errorf("%d objects only, %d of the greatest age only", most, oldest)
	}
}

// Objects that are moved again and again, each several times, are there once,
// with the fields that they had.
func TestObjectsAreThereOnce(t *testing.T) {
	const count = 40
	s, _ := store.New(5, 500)
	where := map[int]ref.Ref{}
	shape := func(i int) api.Shape { return sh(i%3, 1+i%4) }
	for i := range count {
		where[i], _ = s.Make(shape(i), i%32)
		s.SetRaw(where[i], 0, uint64(7000+i))
	}
	m := evac.New(s, nil)
	var seed noise
	for round := 1; round <= 12; round++ {
		if e := m.Begin(); e != api.OK {
			t.Fatalf("Begin: error %d", e)
		}
		next := map[int]ref.Ref{}
		for len(next) < count {
			i := seed.below(count)
			to := m.Move(where[i])
			if was, is := next[i]; is && was != to {
				t.Fatalf("Move(%d): %d, not %d", where[i], to, was)
			}
			next[i] = to
		}
		s.Semi().End()
		s.Large().Sweep()
		where = next
		words, large, known := 0, 0, map[ref.Ref]int{}
		for i, r := range where {
			known[r]++
			want := api.Header{Shape: shape(i), Site: i % 32, Age: min(round, 7), Large: i%3+i%4+2 > 5}
			if h, e := s.Header(r); h != want || e != api.OK {
				t.Fatalf("object %d: %v, error %d, not %v", i, h, e, want)
			}
			if w, e := s.Raw(r, 0); w != uint64(7000+i) || e != api.OK {
				t.Fatalf("object %d: %d, error %d", i, w, e)
			}
			if want.Large {
				large++
			} else {
				words += i%3 + i%4 + 2
			}
		}
		if len(known) != count || s.Semi().Top() != words || s.Large().Count() != large || m.Moved() != round*count {
			t.Fatalf("%d objects, %d small words, %d large objects, Moved %d", len(known), s.Semi().Top(), s.Large().Count(), m.Moved())
		}
	}
}

// The objects of the greatest space, of which the last one begins at the last
// index there can be, then the first one.
func TestGreatestSpace(t *testing.T) {
	s, e := store.New(64, mostWords)
	if e != api.OK {
		t.Fatalf("New: error %d", e)
	}
	var list []ref.Ref
	for s.Semi().Room() > 64 {
		r, _ := s.Make(sh(0, 63), 1)
		list = append(list, r)
	}
	for _, raws := range []int{62, 0} {
		r, _ := s.Make(sh(0, raws), 2)
		list = append(list, r)
	}
	if n := len(list); list[n-1] != 2*mostWords-1 || s.Semi().Room() != 0 {
		t.Fatalf("the last object is %d", list[n-1])
	}
	s.SetRaw(list[0], 62, 77)
	m := evac.New(s, nil)
	if e := m.Begin(); e != api.OK {
		t.Fatalf("Begin: error %d", e)
	}
	at := 0
	move := func(r ref.Ref, words int) {
		if to := m.Move(r); to != ref.Ref(2*at+1) || m.Find(r) != to || m.Move(r) != to {
			t.Fatalf("Move(%d): %d, Find %d, not %d", r, to, m.Find(r), 2*at+1)
		}
		at += words
	}
	n := len(list)
	move(list[n-1], 1)
	for _, r := range list[:n-2] {
		move(r, 64)
	}
	move(list[n-2], 63)
	if at != mostWords || m.Moved() != n {
		t.Errorf("%d words, Moved %d", at, m.Moved())
	}
	if w, e := s.Raw(m.Find(list[0]), 62); w != 77 || e != api.OK {
		t.Errorf("Raw: %d, error %d", w, e)
	}
	// The other way round, so that the first one becomes the last one.
	s.Semi().End()
	m.Begin()
	for k := range n - 1 {
		m.Move(ref.Ref(2*mostWords - 125 - 128*k))
	}
	if to := m.Move(1); to != 2*mostWords-1 || m.Find(1) != to || m.Move(1) != to {
		t.Errorf("Move(1): %d, Find %d", to, m.Find(1))
	}
}

// P1

// Calls end and do not panic for whatever reference, at any time.
func TestAnyReference(t *testing.T) {
	p := newPair(t, 4, 30)
	var seed noise
	p.grow(t, &seed, 8)
	refs := append(badRefs(), math.MaxUint64, 2*mostWords-1, 2*mostIds)
	for r := range ref.Ref(130) {
		refs = append(refs, r)
	}
	for range 3 {
		for _, r := range refs {
			p.got.Move(r)
			p.got.Find(r)
		}
		p.got.Begin()
		for _, r := range refs {
			p.got.Find(r)
			p.got.Move(r)
		}
		p.s.Semi().End()
	}
}

// A word that refers to nothing is at no place, and moves nothing.
func TestBadReferences(t *testing.T) {
	p := newPair(t, 4, 30)
	var seed noise
	p.grow(t, &seed, 8)
	p.must(t)
	p.move(t, p.want.refs[0])
	for _, r := range append(badRefs(), 2*mostWords-1, 2*mostIds, 2*20) {
		p.nowhere(t, r)
	}
}

// nowhere fails unless what a word refers to was not moved, and is not, and
// nothing else is.
func (p *pair) nowhere(t *testing.T, r ref.Ref) {
	t.Helper()
	held := p.s.Mem().Held()
	for range 2 {
		if to := p.got.Find(r); to != ref.Nil {
			t.Errorf("Find(%d): %d", r, to)
		}
		if to := p.got.Move(r); to != ref.Nil {
			t.Errorf("Move(%d): %d", r, to)
		}
	}
	p.check(t, "Move", r)
	if now := p.s.Mem().Held(); now != held {
		t.Errorf("Move(%d): %d words in use, not %d", r, now, held)
	}
}

// Where no header is, or that of an object that would have more words than are
// allocated, no small object can be moved.
func TestNoHeader(t *testing.T) {
	for _, tooMany := range []api.Shape{sh(0, 3), sh(3, 0), sh(0, 40), sh(mostFields, mostFields)} {
		p := newPair(t, 4, 30)
		var seed noise
		a := p.make(t, &seed, 1, 2, 1)
		for raw, w := range []uint64{0, 1<<62 | 1<<40} {
			p.s.SetRaw(a, raw, w)
			p.want.now[2+raw] = w
		}
		b, c, d := p.make(t, &seed, 0, 0, 2), p.make(t, &seed, 0, 2, 3), p.make(t, &seed, 0, 2, 4)
		p.setHeader(t, b, 0)
		p.setHeader(t, d, headerOf(tooMany, 4, 0, false))
		p.nowhere(t, c) // no collection has begun
		p.must(t)
		for _, r := range []ref.Ref{5, 7, b, d, 2*11 + 1, 2*12 + 1, 2*30 + 1} {
			p.nowhere(t, r)
		}
		p.move(t, a)
		p.move(t, c)
		for _, r := range []ref.Ref{5, 7, b, d} {
			p.nowhere(t, r)
		}
		p.s.Semi().End()
		p.want.turning, p.want.old = false, nil
		p.nowhere(t, d)
	}
}

// A large object is marked though its first word is no header, which stays as it
// is then.
func TestLargeWithoutHeader(t *testing.T) {
	for _, w := range []uint64{0, 5, 1 << 63, 1<<62 | 1<<40, math.MaxUint64} {
		s, _ := store.New(4, 30)
		r, _ := s.Make(sh(1, 20), 3)
		s.SetWord(r, 0, w)
		met := 0
		m := evac.New(s, func(api.Header) { met++ })
		m.Begin()
		for range 2 {
			if to := m.Move(r); to != r || m.Find(r) != r || m.Moved() != 1 || met != 0 {
				t.Errorf("%x: Move: %d, Find %d, Moved %d, %d met", w, to, m.Find(r), m.Moved(), met)
			}
		}
		if now, e := s.Word(r, 0); now != w || e != api.OK {
			t.Errorf("%x: the first word is %x, error %d", w, now, e)
		}
	}
}

// Calls end and do not panic, whatever was done to the spaces, even if they do
// not exist any more.
func TestCallsEndForAllSpaces(t *testing.T) {
	for seed := range noise(400) {
		s, _ := store.New(2+seed.below(10), seed.below(90))
		m := evac.New(s, func(api.Header) {})
		x := s.Mem()
		for range 12 {
			s.Make(sh(seed.below(5), seed.below(5)), seed.below(32))
		}
		for range 5 {
			if seed.below(3) > 0 {
				m.Begin()
			}
			for range 60 {
				r := ref.Ref(seed.below(60))
				if seed.below(8) == 0 {
					r = ref.Ref(seed.word() >> seed.below(64))
				}
				m.Move(r)
				m.Find(r)
			}
			id := seed.below(6)
			words, _ := x.Look(id)
			for at := range words {
				if seed.below(5) == 0 {
					x.Write(id, at, seed.word())
				}
			}
			switch seed.below(12) {
			case 0:
				x.Close(id)
			case 1:
				x.Close(id)
				x.Open(seed.below(90))
			case 2:
				s.Semi().End()
			case 3:
				s.Semi().End()
				s.Semi().Flip(seed.below(30))
			}
		}
		m.Moved()
		m.Store()
	}
}

// Move does not panic, though who is told does: the objects are where they would
// be.
func TestMetThatPanics(t *testing.T) {
	p := newPair(t, 4, 100)
	var seed noise
	p.grow(t, &seed, 20)
	p.got = evac.New(p.s, func(h api.Header) {
		p.met = append(p.met, h)
		panic(h)
	})
	p.must(t)
	for _, r := range p.want.refs {
		p.move(t, r)
		p.check(t, "Move", r)
		p.move(t, r)
		p.find(t, r)
	}
	p.check(t, "Move")
}

// Who is told may do whatever there is to do with a Mover and its Store. What
// that does is open, but all calls end, then and later.
func TestMethodsWithinMet(t *testing.T) {
	for seed := range noise(100) {
		s, _ := store.New(4, 60)
		var m *evac.Mover
		left := 0
		m = evac.New(s, func(api.Header) {
			for ; left > 0; left-- {
				switch seed.below(8) {
				case 0:
					m.Begin()
				case 1:
					s.Semi().End()
				case 2:
					s.Large().Sweep()
				case 3:
					s.Make(sh(seed.below(3), seed.below(5)), 1)
				default:
					m.Find(ref.Ref(seed.below(100)))
					m.Move(ref.Ref(seed.below(100)))
				}
			}
		})
		for range 15 {
			for range 6 {
				s.Make(sh(seed.below(3), seed.below(5)), 1)
			}
			m.Begin()
			for range 20 {
				left = seed.below(5)
				m.Move(ref.Ref(seed.below(100)))
			}
			s.Semi().End()
			s.Large().Sweep()
		}
	}
}

// P2 (rules 3 and 4)

func TestFailedCallsHaveNoEffect(t *testing.T) {
	failed := 0
	for seed := range noise(8) {
		p := newPair(t, 4, 30)
		look := func() string {
			m := p.s.Mem()
			out := fmt.Sprint(m.Held(), m.High(), m.Spaces(), p.tell())
			for id := range m.Spaces() + 5 {
				words, e := m.Look(id)
				out += fmt.Sprint(words, e)
			}
			return out
		}
		before := look()
		p.run(t, 100+seed, 20, func(call string, e api.Errno) {
			now := look()
			if e != api.OK || call == "Find" || call == "ask" {
				failed++
				if now != before {
					t.Fatalf("%s, error %d, changed %s to %s", call, e, before, now)
				}
			}
			before = now
		})
	}
	if failed < 300 {
		t.Errorf("%d calls only", failed)
	}
}

// The same calls have the same results, and take the same steps.
func TestTheSameCalls(t *testing.T) {
	run := func() []string {
		p := newPair(t, 5, 40)
		var out []string
		p.run(t, 200, 15, func(string, api.Errno) { out = append(out, p.tell(), counted(p.s.Mem())) })
		return out
	}
	if !slices.Equal(run(), run()) {
		t.Errorf("the same calls differ")
	}
}

// Movers of other Stores, which may be amid a collection or not, leave a Store
// alone.
func TestMoversAreApart(t *testing.T) {
	list := []*pair{newPair(t, 2, 50), newPair(t, 8, 70), newPair(t, 8, 70)}
	var seed noise
	for i, p := range list {
		p.grow(t, &seed, 10)
		if i > 0 {
			p.must(t)
			p.move(t, p.want.refs[i])
		}
	}
	for i := range 20 {
		for at, p := range list {
			var before []string
			for _, q := range list {
				before = append(before, counted(q.s.Mem()))
			}
			if at == 0 {
				p.run(t, noise(1000*i), 1, func(string, api.Errno) {})
			} else {
				p.move(t, p.some(&seed))
				p.find(t, p.some(&seed))
			}
			for k, q := range list {
				if now := counted(q.s.Mem()); k != at && now != before[k] {
					t.Fatalf("a call on another Store: %s, not %s", now, before[k])
				}
			}
			for _, q := range list {
				q.check(t, "a call on another Store")
			}
		}
	}
}

// A Mover shows the chapter's methods and nothing else, and keeps its Store, a
// count, and as a field the function that it tells of objects.
func TestNothingElseIsExported(t *testing.T) {
	of := reflect.TypeFor[*evac.Mover]()
	var got []string
	for i := range of.NumMethod() {
		got = append(got, of.Method(i).Name)
	}
	if !slices.Equal(got, []string{"Begin", "Find", "Move", "Moved", "Store"}) {
		t.Errorf("methods: %v", got)
	}
	var kept []string
	for i := range of.Elem().NumField() {
		f := of.Elem().Field(i)
		if f.IsExported() {
			t.Errorf("field %s is exported", f.Name)
		}
		kept = append(kept, f.Type.String())
	}
	slices.Sort(kept)
	if !slices.Equal(kept, []string{"*store.Store", "func(api.Header)", "int"}) {
		t.Errorf("fields: %v", kept)
	}
}
