package store_test

import (
	"fmt"
	"math"
	"reflect"
	"slices"
	"testing"

	"haymow/api"
	"haymow/large"
	"haymow/mem"
	"haymow/ref"
	"haymow/semi"
	"haymow/store"
)

// The calls have these signatures exactly.
var (
	_ func(int, int) (*store.Store, api.Errno)                    = store.New
	_ func(*store.Store) *mem.Mem                                 = (*store.Store).Mem
	_ func(*store.Store) *semi.Semi                               = (*store.Store).Semi
	_ func(*store.Store) *large.Large                             = (*store.Store).Large
	_ func(*store.Store) int                                      = (*store.Store).Small
	_ func(*store.Store, api.Shape, int) (ref.Ref, api.Errno)     = (*store.Store).Make
	_ func(*store.Store, ref.Ref, int) (uint64, api.Errno)        = (*store.Store).Word
	_ func(*store.Store, ref.Ref, int, uint64) api.Errno          = (*store.Store).SetWord
	_ func(*store.Store, ref.Ref) (api.Header, api.Errno)         = (*store.Store).Header
	_ func(*store.Store, ref.Ref, int) (ref.Ref, api.Errno)       = (*store.Store).Pointer
	_ func(*store.Store, ref.Ref, int, ref.Ref) (errno api.Errno) = (*store.Store).SetPointer
	_ func(*store.Store, ref.Ref, int) (uint64, api.Errno)        = (*store.Store).Raw
	_ func(*store.Store, ref.Ref, int, uint64) (errno api.Errno)  = (*store.Store).SetRaw
)

// sh is a shape from its numbers.
func sh(pointers, raws int) api.Shape { return api.Shape{Pointers: pointers, Raws: raws} }

// The example of the chapter.
func TestExample(t *testing.T) {
	s, e := store.New(8, 100)
	if e != api.OK {
		t.Fatalf("New: error %d", e)
	}
	if r, e := s.Make(sh(1, 1), 0); r != 1 || e != api.OK || r.Kind() != ref.Small || r.At() != 0 {
		t.Errorf("Make(1, 1): %d, error %d", r, e)
	}
	if r, e := s.Make(sh(1, 9), 0); r != 2 || e != api.OK || r.Kind() != ref.Large || r.At() != 1 {
		t.Errorf("Make(1, 9): %d, error %d", r, e)
	}
}

// P16.1

func TestNew(t *testing.T) {
	for small := leastSmall; small <= mostSmall; small++ {
		for _, words := range []int{0, 1, small - 1, small, 100, 257} {
			s, e := store.New(small, words)
			if e != api.OK || s == nil {
				t.Fatalf("New(%d, %d): %v, error %d", small, words, s, e)
			}
			m := s.Mem()
			if s.Small() != small || m.Spaces() != 2 || m.Held() != words || m.High() != words || m.Steps() != (api.Wide{}) {
				t.Errorf("New(%d, %d): Small %d, %d spaces, %d words in use, High %d, steps %v", small, words, s.Small(), m.Spaces(), m.Held(), m.High(), m.Steps())
			}
			if x := s.Semi(); x.Size() != words || x.Top() != 0 || x.Turning() {
				t.Errorf("New(%d, %d): Size %d, Top %d, Turning %v", small, words, x.Size(), x.Top(), x.Turning())
			}
			if x := s.Large(); x.Count() != 0 || x.Words() != 0 {
				t.Errorf("New(%d, %d): Count %d, Words %d", small, words, x.Count(), x.Words())
			}
			// In this order: the space of small objects is the first one of the Mem.
			if n, e := m.Size(0); n != words || e != api.OK {
				t.Errorf("New(%d, %d): space 0 has %d words, error %d", small, words, n, e)
			}
			if n, e := m.Size(1); n != 0 || e != api.OK {
				t.Errorf("New(%d, %d): space 1 has %d words, error %d", small, words, n, e)
			}
		}
	}
	for _, words := range []int{65536, mostWords - 1, mostWords} {
		s, e := store.New(8, words)
		if e != api.OK || s.Semi().Size() != words || s.Mem().Held() != words {
			t.Errorf("New(8, %d): error %d", words, e)
		}
	}
}

func TestNewOfWrongNumbers(t *testing.T) {
	wrongSmall := append(far(), -64, -8, -2, -1, 0, 1, 65, 66, 128, 256+8, 65536+8, 1<<32+8)
	wrongWords := append(far(), -100, -2, -1, mostWords+1, mostWords+2, 2*mostWords)
	for _, small := range wrongSmall {
		for _, words := range append(wrongWords, 0, 1, 100) {
			if s, e := store.New(small, words); s != nil || e != api.ErrArg {
				t.Errorf("New(%d, %d): %v, error %d", small, words, s, e)
			}
		}
	}
	for _, words := range wrongWords {
		want := api.ErrLong
		if words < 0 {
			want = api.ErrArg
		}
		for _, small := range []int{leastSmall, 8, mostSmall} {
			if s, e := store.New(small, words); s != nil || e != want {
				t.Errorf("New(%d, %d): %v, error %d", small, words, s, e)
			}
		}
	}
}

// The parts are those in which the objects are, and stay the same ones.
func TestParts(t *testing.T) {
	s, _ := store.New(4, 100)
	m, x, l := s.Mem(), s.Semi(), s.Large()
	a, _ := s.Make(sh(1, 2), 3)
	b, _ := s.Make(sh(1, 3), 4)
	if s.Mem() != m || s.Semi() != x || s.Large() != l || s.Small() != 4 {
		t.Errorf("other parts, Small %d", s.Small())
	}
	if x.Top() != 4 || l.Count() != 1 || l.Words() != 5 || m.Held() != 100+5+48 || m.Spaces() != 3 {
		t.Errorf("Top %d, Count %d, Words %d, %d words in use, %d spaces", x.Top(), l.Count(), l.Words(), m.Held(), m.Spaces())
	}
	x.Write(2, 55)
	l.Write(1, 3, 66)
	if w, e := s.Word(a, 2); w != 55 || e != api.OK {
		t.Errorf("Word: %d, error %d", w, e)
	}
	if w, e := s.Word(b, 3); w != 66 || e != api.OK {
		t.Errorf("Word: %d, error %d", w, e)
	}
	s.SetWord(a, 3, 77)
	s.SetWord(b, 4, 88)
	if w, e := x.Read(3); w != 77 || e != api.OK {
		t.Errorf("Read: %d, error %d", w, e)
	}
	if w, e := l.Read(1, 4); w != 88 || e != api.OK {
		t.Errorf("Read: %d, error %d", w, e)
	}
	if n := steps(m, func() { s.Mem(); s.Semi(); s.Large(); s.Small() }); n > 8 {
		t.Errorf("%d steps", n)
	}
}

// P16.2

// Each shape of few words, and those around the most words of a small object,
// for each such number.
func TestMake(t *testing.T) {
	for small := leastSmall; small <= mostSmall; small++ {
		p := newPair(t, small, 5000)
		var shapes []api.Shape
		for pointers := range 4 {
			for raws := range 4 {
				shapes = append(shapes, sh(pointers, raws))
			}
		}
		for fields := small - 3; fields <= small+2; fields++ {
			for _, pointers := range []int{0, 1, fields / 2, fields - 1, fields} {
				shapes = append(shapes, sh(pointers, fields-pointers))
			}
		}
		for i, s := range shapes {
			site := i % 32
			r, e := p.make(t, s, site)
			if !isRight(s) {
				if r != 0 || e != api.ErrShape {
					t.Errorf("small %d: Make%v: %d, error %d", small, s, r, e)
				}
				continue
			}
			isLarge := 1+s.Pointers+s.Raws > small
			if e != api.OK || r.Kind() == ref.Large != isLarge {
				t.Fatalf("small %d: Make%v: %d, error %d", small, s, r, e)
			}
			want := api.Header{Shape: s, Site: site, Large: isLarge}
			if h, e := p.got.Header(r); h != want || e != api.OK {
				t.Errorf("small %d: Header: %v, error %d, not %v", small, h, e, want)
			}
		}
		p.check(t, "Make", small)
	}
}

// The objects are told one behind another, whatever is between them.
func TestMakeInOrder(t *testing.T) {
	p := newPair(t, 4, 20)
	for i, c := range []struct {
		s    api.Shape
		want ref.Ref
		e    api.Errno
	}{
		{sh(0, 0), 1, api.OK},
		{sh(2, 2), 2, api.OK},
		{sh(3, 0), 3, api.OK},
		{sh(0, 4095), 4, api.OK},
		{sh(0, 2), 11, api.OK},
		{sh(4095, 4095), 6, api.OK},
		{sh(1, 2), 17, api.OK},
		{sh(0, 3), 25, api.OK},
		{sh(1, 3), 8, api.OK},
		{sh(0, 1), 33, api.OK},
		{sh(1, 1), 0, api.ErrFull},
		{sh(4, 0), 10, api.OK},
		{sh(0, 1), 37, api.OK},
		{sh(0, 0), 0, api.ErrFull},
		{sh(5, 0), 12, api.OK},
	} {
		if r, e := p.make(t, c.s, i); r != c.want || e != c.e {
			t.Errorf("Make%v: %d, error %d, not %d, error %d", c.s, r, e, c.want, c.e)
		}
	}
	p.check(t, "Make")
}

// The header is the first word, with the site and an age of 0; all other words
// are 0.
func TestMadeWords(t *testing.T) {
	for site := range 32 {
		p := newPair(t, 5, 40)
		for _, c := range []struct {
			s    api.Shape
			want uint64
		}{
			{sh(1, 2), 0x4000000000002001},
			{sh(0, 0), 0x4000000000000000},
			{sh(4, 0), 0x4000000000000004},
			{sh(0, 4), 0x4000000000004000},
			{sh(3, 2), 0x4000000100002003},
			{sh(4095, 4095), 0x4000000100ffffff},
		} {
			r := p.must(t, c.s.Pointers, c.s.Raws, site)
			want := c.want + uint64(site)<<24
			if w, e := p.got.Word(r, 0); w != want || e != api.OK {
				t.Errorf("Word: %x, error %d, not %x", w, e, want)
			}
			for at := 1; at <= c.s.Pointers+c.s.Raws; at++ {
				if w, e := p.got.Word(r, at); w != 0 || e != api.OK {
					t.Fatalf("Word(%d): %x, error %d", at, w, e)
				}
			}
		}
	}
}

// Large objects have words of 0, though their numbers, and their spaces, were
// those of others, and so have small ones behind a collection.
func TestMadeWordsAreZeroAgain(t *testing.T) {
	p := newPair(t, 4, 60)
	for i := range 12 {
		for k := range 3 {
			p.fill(t, p.must(t, 1+(i+k)%3, 3+k, i), 10*i+k+1)
			p.fill(t, p.must(t, k%2, 1+i%2, k), 10*i+k+4)
		}
		p.check(t, "Make", i)
		p.sweep(t, p.want.starts[i%len(p.want.starts)])
		p.check(t, "Sweep", i)
		if i%3 == 2 {
			p.flip(t, 50+i)
			p.check(t, "Flip", i)
		}
	}
}

// ErrShape ahead of ErrSite, and both ahead of ErrFull; nothing is made.
func TestMakeOfWrongNumbers(t *testing.T) {
	wrongFields := append(far(), -4096, -4095, -2, -1, 4096, 4097, 8191, 8192, 65536, 65537, 1<<22)
	wrongSites := append(far(), -32, -2, -1, 32, 33, 63, 64, 256, 257, 65536)
	refuse := func(p *pair) {
		t.Helper()
		before := counted(p.got.Mem())
		for _, wrong := range wrongFields {
			for _, s := range []api.Shape{sh(wrong, 0), sh(0, wrong), sh(wrong, wrong), sh(wrong, 1-wrong), sh(4095, wrong), sh(wrong, 4095), sh(wrong, 9)} {
				for _, site := range []int{0, 31, 32, -1, math.MinInt} {
					if r, e := p.make(t, s, site); r != 0 || e != api.ErrShape {
						t.Errorf("Make(%v, %d): %d, error %d", s, site, r, e)
					}
				}
			}
		}
		for _, s := range []api.Shape{sh(0, 0), sh(1, 2), sh(7, 9), sh(4095, 4095)} {
			for _, site := range wrongSites {
				if r, e := p.make(t, s, site); r != 0 || e != api.ErrSite {
					t.Errorf("Make(%v, %d): %d, error %d", s, site, r, e)
				}
			}
		}
		if counted(p.got.Mem()) != before {
			t.Errorf("Make: %s, not %s", counted(p.got.Mem()), before)
		}
		p.check(t, "Make")
	}
	p := newPair(t, 8, 12)
	refuse(p)
	p.must(t, 1, 6, 0)
	p.must(t, 1, 7, 0)
	refuse(p)
	p.must(t, 0, 3, 0)
	refuse(p)
	for p.got.Mem().Spaces() < mostSpaces {
		p.got.Mem().Open(0)
	}
	refuse(p)
}

// ErrFull as soon as a small object has more words than are free, however many
// spaces there may be; a large one needs none of them.
func TestMakeWithoutRoom(t *testing.T) {
	for size := range 20 {
		for fields := range 8 {
			p := newPair(t, 8, size)
			made := 0
			for range 25 {
				before := counted(p.got.Mem())
				if r, e := p.make(t, sh(fields/2, fields-fields/2), 1); e == api.OK {
					made++
				} else if r != 0 || e != api.ErrFull || counted(p.got.Mem()) != before {
					t.Errorf("%d words: Make(%d): %d, error %d, %s, not %s", size, fields, r, e, counted(p.got.Mem()), before)
				}
			}
			if want := size / (1 + fields); made != want {
				t.Errorf("%d words: %d objects of %d words, not %d", size, made, 1+fields, want)
			}
			p.must(t, 4, 4, 2)
			p.check(t, "Make", size, fields)
			p.resize(t, size+8)
			p.must(t, fields, 0, 3)
			p.check(t, "Resize", size, fields)
		}
	}
}

// Where the Mem has no room for a space, large objects are refused and small
// ones are not.
func TestMakeWithoutASpace(t *testing.T) {
	for _, n := range []int{0, 1, 7, 8, 9} {
		p := newPair(t, 4, 100)
		m := p.got.Mem()
		for range n {
			p.must(t, 4, 4, 0)
		}
		last := 0
		for m.Spaces() < mostSpaces {
			last, _ = m.Open(0)
		}
		for _, s := range []api.Shape{sh(4, 0), sh(0, 9), sh(4095, 4095)} {
			before := counted(m)
			if r, e := p.make(t, s, 5); r != 0 || e != api.ErrFull || counted(m) != before {
				t.Errorf("%d objects: Make%v: %d, error %d, %s, not %s", n, s, r, e, counted(m), before)
			}
		}
		p.must(t, 1, 2, 5)
		p.check(t, "Make", n)
		m.Close(last)
		if r := p.must(t, 4, 0, 5); r != ref.Ref(2*n+2) {
			t.Errorf("%d objects: Make: %d", n, r)
		}
		p.check(t, "Close", n)
	}
}

// As many small objects as there can be.
func TestMostSmallObjects(t *testing.T) {
	s, _ := store.New(2, mostWords)
	for at := range mostWords {
		if r, e := s.Make(sh(0, 0), at%32); r != ref.Ref(2*at+1) || e != api.OK {
			t.Fatalf("Make: %d, error %d, not %d", r, e, 2*at+1)
		}
	}
	for range 2 {
		if r, e := s.Make(sh(0, 0), 0); r != 0 || e != api.ErrFull {
			t.Errorf("Make: %d, error %d", r, e)
		}
	}
	for _, at := range []int{0, 1, 65535, 65536, mostWords - 2, mostWords - 1} {
		want := api.Header{Site: at % 32}
		if h, e := s.Header(ref.Ref(2*at + 1)); h != want || e != api.OK {
			t.Errorf("Header: %v, error %d, not %v", h, e, want)
		}
	}
	last := ref.Ref(2*mostWords - 1)
	for _, word := range append(far(), 1, 2, -mostWords) {
		if w, e := s.Word(last, word); w != 0 || e != api.ErrBounds {
			t.Errorf("Word(%d): %d, error %d", word, w, e)
		}
	}
	for _, word := range []int{0, -1, -65536, 1 - mostWords} {
		if w, e := s.Word(last, word); w>>24 != 1<<38+uint64((mostWords-1+word)%32) || e != api.OK {
			t.Errorf("Word(%d): %x, error %d", word, w, e)
		}
	}
	for _, word := range []int{mostWords - 1, 65536, 1, 0} {
		if w, e := s.Word(1, word); w>>24 != 1<<38+uint64(word%32) || e != api.OK {
			t.Errorf("Word(%d): %x, error %d", word, w, e)
		}
	}
}

// As many large objects as a Mem has spaces beside the first two.
func TestMostLargeObjects(t *testing.T) {
	s, _ := store.New(2, 0)
	for i := range mostSpaces - 2 {
		if r, e := s.Make(sh(1, 1), i%32); r != ref.Ref(2*i+2) || e != api.OK {
			t.Fatalf("Make: %d, error %d, not %d", r, e, 2*i+2)
		}
	}
	for range 2 {
		if r, e := s.Make(sh(1, 1), 0); r != 0 || e != api.ErrFull {
			t.Errorf("Make: %d, error %d", r, e)
		}
	}
	for _, id := range []int{1, 2, 65536, 131072, mostSpaces - 2} {
		r := ref.Ref(2 * id)
		if h, e := s.Header(r); h != (api.Header{Shape: sh(1, 1), Site: (id - 1) % 32, Large: true}) || e != api.OK {
			t.Errorf("Header: %v, error %d", h, e)
		}
		if e := s.SetPointer(r, 0, r); e != api.OK {
			t.Errorf("SetPointer: error %d", e)
		}
	}
	for _, id := range []int{1, 2, 3, 65536, 131072, mostSpaces - 2} {
		want := ref.Ref(2 * id)
		if id == 3 {
			want = ref.Nil
		}
		if to, e := s.Pointer(ref.Ref(2*id), 0); to != want || e != api.OK {
			t.Errorf("Pointer: %d, error %d, not %d", to, e, want)
		}
	}
}

// P16.3

// Nil and Bad references are told ahead of all else, and nothing is done.
func TestNoReference(t *testing.T) {
	p := newPair(t, 4, 100)
	for _, made := range []bool{false, true} {
		if made {
			p.must(t, 1, 1, 0)
			p.must(t, 5, 5, 0)
		}
		before := counted(p.got.Mem())
		for _, r := range append(badRefs(), ref.Nil) {
			want := api.ErrForm
			if r == ref.Nil {
				want = api.ErrNil
			}
			if e := p.header(t, r); e != want {
				t.Errorf("Header(%d): error %d", r, e)
			}
			for _, i := range append(far(), -2, -1, 0, 1, 2, 5, 11) {
				calls := []api.Errno{p.word(t, r, i), p.setWord(t, r, i, 7)}
				if r == ref.Nil {
					calls = append(calls, p.pointer(t, r, i), p.setPointer(t, r, i, 1), p.setPointer(t, r, i, 1<<50), p.raw(t, r, i), p.setRaw(t, r, i, 7))
				}
				for n, e := range calls {
					if e != want {
						t.Errorf("call %d of %d, %d: error %d", n, r, i, e)
					}
				}
			}
		}
		if counted(p.got.Mem()) != before {
			t.Errorf("%s, not %s", counted(p.got.Mem()), before)
		}
		p.check(t, "no reference")
	}
}

// Numbers and indices that no object has are told as layers 14 and 15 do.
func TestNoObject(t *testing.T) {
	p := newPair(t, 4, 100)
	for _, n := range []int{0, 1, 3} {
		for range n {
			p.fill(t, p.must(t, 1, 2, 0), 1)
			p.fill(t, p.must(t, 1, 3, 0), 2)
		}
		small, next := p.got.Semi().Top(), p.got.Large().Count()+1
		for _, at := range []int{small, small + 1, small + 50, 65536, mostWords - 1} {
			r := ref.Ref(2*at + 1)
			if e := p.header(t, r); e != api.ErrBounds {
				t.Errorf("Header(%d): error %d", r, e)
			}
			for _, word := range append(far(), 0, 1, 2) {
				if e, f := p.word(t, r, word), p.setWord(t, r, word, 7); e != api.ErrBounds || f != api.ErrBounds {
					t.Errorf("Word(%d, %d): error %d, error %d", r, word, e, f)
				}
			}
			// What counts is the sum, wherever the reference leads.
			if small > 0 {
				for _, word := range []int{-at, small - 1 - at} {
					if e, f := p.word(t, r, word), p.setWord(t, r, word, 7); e != api.OK || f != api.OK {
						t.Errorf("Word(%d, %d): error %d, error %d", r, word, e, f)
					}
				}
			}
			if e := p.word(t, r, -at-1); e != api.ErrBounds {
				t.Errorf("Word(%d, %d): error %d", r, -at-1, e)
			}
		}
		for _, id := range []int{next, next + 1, next + 50, 65536, mostIds} {
			r := ref.Ref(2 * id)
			if e := p.header(t, r); e != api.ErrNone {
				t.Errorf("Header(%d): error %d", r, e)
			}
			for _, word := range append(far(), -id, -1, 0, 1, 2) {
				if e, f := p.word(t, r, word), p.setWord(t, r, word, 7); e != api.ErrNone || f != api.ErrNone {
					t.Errorf("Word(%d, %d): error %d, error %d", r, word, e, f)
				}
			}
		}
		p.check(t, "no object")
	}
	gone := p.want.starts[1]
	p.sweep(t)
	if e, f := p.header(t, gone), p.word(t, gone, 0); e != api.ErrNone || f != api.ErrNone {
		t.Errorf("an object that was removed: error %d, error %d", e, f)
	}
	p.flip(t, 0)
	if e, f := p.header(t, 1), p.word(t, 1, 0); e != api.ErrBounds || f != api.ErrBounds {
		t.Errorf("an object that was removed: error %d, error %d", e, f)
	}
}

// The words of all objects, ahead of them and behind them.
func TestWords(t *testing.T) {
	p := newPair(t, 5, 40)
	var made []ref.Ref
	for i, s := range []api.Shape{sh(0, 0), sh(1, 2), sh(2, 7), sh(0, 4), sh(9, 0), sh(0, 5), sh(1, 1)} {
		made = append(made, p.must(t, s.Pointers, s.Raws, i))
		p.fill(t, made[i], i+1)
	}
	for i, r := range made {
		for _, word := range append(far(), -50, -14, -13, -10, -5, -4, -2, -1, 0, 1, 2, 3, 4, 5, 6, 9, 10, 13, 14, 30, 50, 256, 65536) {
			e := p.word(t, r, word)
			if f := p.setWord(t, r, word, uint64(i*1000+word%1000+2000)); e != f {
				t.Errorf("Word(%d, %d): error %d, SetWord error %d", r, word, e, f)
			}
			if r&1 == 0 && word < 0 && e != api.ErrBounds {
				t.Errorf("Word(%d, %d): error %d", r, word, e)
			}
			p.check(t, "SetWord", r, word)
		}
	}
}

// A word that is added to the index of a small object to be more than the
// greatest int is none; and so at each index.
func TestSumsDoNotOverflow(t *testing.T) {
	p := newPair(t, 2, 300)
	for range 300 {
		p.must(t, 0, 0, 1)
	}
	before := p.tell()
	for at := range 300 {
		r := ref.Ref(2*at + 1)
		for _, word := range []int{math.MaxInt, math.MaxInt - at, math.MaxInt - at + 1, math.MinInt, math.MinInt + at, -at - 1, 300 - at, mostWords, mostWords - at, -mostWords} {
			if e, f := p.word(t, r, word), p.setWord(t, r, word, 7); e != api.ErrBounds || f != api.ErrBounds {
				t.Errorf("Word(%d, %d): error %d, error %d", r, word, e, f)
			}
		}
		for _, word := range []int{-at, 299 - at, 0} {
			if e := p.word(t, r, word); e != api.OK {
				t.Errorf("Word(%d, %d): error %d", r, word, e)
			}
		}
	}
	if p.tell() != before {
		t.Errorf("words changed")
	}
}

// Each bit of each word is stored on its own.
func TestBits(t *testing.T) {
	p := newPair(t, 4, 8)
	list := []ref.Ref{p.must(t, 1, 2, 0), p.must(t, 2, 3, 0)}
	for _, r := range list {
		for word := range 4 {
			for bit := range 64 {
				for _, w := range []uint64{1 << bit, math.MaxUint64 - 1<<bit} {
					p.setWord(t, r, word, w)
					p.word(t, r, word)
					p.check(t, "SetWord", r, word, bit)
				}
			}
		}
	}
}

// The header is whatever the first word tells, be the object small or large.
func TestHeader(t *testing.T) {
	p := newPair(t, 4, 8)
	list := []ref.Ref{p.must(t, 1, 2, 3), p.must(t, 2, 3, 4)}
	words := []uint64{
		0x4000000000000000, 0x4000000000002001, 0x4000000100002003, 0x40000000ff000000, 0x40000001ffffffff, 0x4000000100000000, 0x40000000e0000000,
		0, 1, 0x2001, 0x8000000000000005, 0x8000000000000000, 0xc000000000002001, 0x4000000200002001, 0x6000000000002001, 0x5000000000000000, math.MaxUint64,
	}
	for bit := range 64 {
		words = append(words, 1<<bit, 1<<62|1<<bit, 1<<62|1<<33-1^1<<bit)
	}
	headers := 0
	for _, r := range list {
		for _, w := range words {
			p.setWord(t, r, 0, w)
			if e := p.header(t, r); e == api.OK {
				headers++
			} else if e != api.ErrForm {
				t.Errorf("Header of %x: error %d", w, e)
			}
		}
	}
	if headers < 100 || headers > 2*len(words)-100 {
		t.Errorf("%d headers", headers)
	}
}

// P16.4

// Each pointer and each raw word, and none that an object has not.
func TestFields(t *testing.T) {
	for pointers := range 6 {
		for raws := range 6 {
			p := newPair(t, 6, 40)
			p.fill(t, p.must(t, 1, 1, 0), 1)
			r := p.must(t, pointers, raws, 9)
			p.fill(t, p.must(t, 1, 1, 0), 2)
			p.fill(t, p.must(t, 5, 5, 0), 3)
			for _, i := range append(far(), -6, -5, -2, -1, 0, 1, 2, 3, 4, 5, 6, 7, 10, 11, 256, 4096, 65536) {
				want := func(fields int) api.Errno {
					if i >= 0 && i < fields {
						return api.OK
					}
					return api.ErrIndex
				}
				if e, f := p.pointer(t, r, i), p.setPointer(t, r, i, ref.Ref(21+2*pointers)); e != want(pointers) || f != e {
					t.Errorf("Pointer(%d) of %d: error %d, error %d", i, pointers, e, f)
				}
				if e, f := p.raw(t, r, i), p.setRaw(t, r, i, uint64(i*7+5)); e != want(raws) || f != e {
					t.Errorf("Raw(%d) of %d: error %d, error %d", i, raws, e, f)
				}
				p.pointer(t, r, i)
				p.raw(t, r, i)
				p.check(t, "field", pointers, raws, i)
			}
		}
	}
}

// The fields of the greatest objects.
func TestMostFields(t *testing.T) {
	for _, s := range []api.Shape{sh(4095, 4095), sh(4095, 0), sh(0, 4095), sh(1, 4095), sh(4095, 1)} {
		p := newPair(t, 64, 0)
		r := p.must(t, s.Pointers, s.Raws, 31)
		for _, i := range []int{0, 1, 255, 256, 2047, 2048, 4093, 4094, 4095, 4096, 8190} {
			p.setPointer(t, r, i, ref.Ref(2*i+1))
			p.setRaw(t, r, i, uint64(i)<<32+1)
		}
		for _, i := range []int{0, 1, 255, 256, 2047, 2048, 4093, 4094, 4095, 4096, 8190} {
			p.pointer(t, r, i)
			p.raw(t, r, i)
		}
		p.check(t, "Set", s)
	}
}

// What is stored may be each reference there can be, also to the object itself,
// to none, and to objects that there are not; Bad ones are refused behind a
// wrong index.
func TestSetPointer(t *testing.T) {
	p := newPair(t, 4, 20)
	list := []ref.Ref{p.must(t, 2, 1, 0), p.must(t, 2, 3, 0), p.must(t, 0, 3, 0), p.must(t, 0, 4, 0)}
	good := append([]ref.Ref{ref.Nil, 2*mostWords - 1, 2 * mostIds, 2*mostIds - 2, 2*mostIds + 1, 4001, 4000}, list...)
	for _, r := range list[:2] {
		for i := range 2 {
			for _, to := range good {
				if e := p.setPointer(t, r, i, to); e != api.OK {
					t.Errorf("SetPointer(%d, %d, %d): error %d", r, i, to, e)
				}
				p.pointer(t, r, i)
				p.check(t, "SetPointer", r, i, to)
			}
			p.setPointer(t, r, i, 11)
			for _, to := range badRefs() {
				if e := p.setPointer(t, r, i, to); e != api.ErrForm {
					t.Errorf("SetPointer(%d, %d, %d): error %d", r, i, to, e)
				}
			}
			p.check(t, "SetPointer", r, i)
		}
	}
	for _, r := range list {
		for _, i := range append(far(), -1, 2, 3, 4) {
			for _, to := range []ref.Ref{1, 0, 1 << 50, math.MaxUint64} {
				if e := p.setPointer(t, r, i, to); e != api.ErrIndex {
					t.Errorf("SetPointer(%d, %d, %d): error %d", r, i, to, e)
				}
			}
		}
	}
	for _, to := range []ref.Ref{1, 0, 1 << 50} {
		if e := p.setPointer(t, ref.Nil, 0, to); e != api.ErrNil {
			t.Errorf("SetPointer(nil, %d): error %d", to, e)
		}
	}
	p.check(t, "SetPointer")
}

// A pointer is what its word holds, even if SetWord stored what refers to
// nothing.
func TestPointerOfAnyWord(t *testing.T) {
	p := newPair(t, 4, 20)
	for _, r := range []ref.Ref{p.must(t, 2, 1, 0), p.must(t, 2, 3, 0)} {
		for _, w := range badRefs() {
			p.setWord(t, r, 2, uint64(w))
			if e := p.pointer(t, r, 1); e != api.OK {
				t.Errorf("Pointer of %d: error %d", w, e)
			}
		}
	}
}

// Raw words may be anything, also what is a header or a reference.
func TestSetRaw(t *testing.T) {
	p := newPair(t, 4, 20)
	list := []ref.Ref{p.must(t, 1, 2, 0), p.must(t, 1, 3, 0)}
	for _, r := range list {
		for raw := range 2 {
			for bit := range 64 {
				for _, w := range []uint64{1 << bit, math.MaxUint64 - 1<<bit, 1<<62 + 1<<bit, 0} {
					if e := p.setRaw(t, r, raw, w); e != api.OK {
						t.Errorf("SetRaw(%d, %d, %x): error %d", r, raw, w, e)
					}
					p.raw(t, r, raw)
				}
				p.check(t, "SetRaw", r, raw, bit)
			}
		}
	}
}

// Where the first word is no header, no field is told of, whatever its index.
func TestFieldsWithoutAHeader(t *testing.T) {
	p := newPair(t, 4, 20)
	for _, r := range []ref.Ref{p.must(t, 1, 2, 0), p.must(t, 1, 3, 0)} {
		p.fill(t, r, 5)
		for _, w := range []uint64{0, 5, 0x8000000000000005, 1<<62 | 1<<40, math.MaxUint64} {
			p.setWord(t, r, 0, w)
			for _, i := range []int{math.MinInt, -1, 0, 1, 2, math.MaxInt} {
				for n, e := range []api.Errno{p.pointer(t, r, i), p.setPointer(t, r, i, 1), p.setPointer(t, r, i, 1<<50), p.raw(t, r, i), p.setRaw(t, r, i, 9)} {
					if e != api.ErrForm {
						t.Errorf("call %d of field %d with %x: error %d", n, i, w, e)
					}
				}
			}
			p.check(t, "no header", r)
		}
	}
}

// The fields are those of the shape that the header tells now.
func TestFieldsOfAnotherHeader(t *testing.T) {
	p := newPair(t, 6, 20)
	for _, r := range []ref.Ref{p.must(t, 2, 3, 0), p.must(t, 3, 3, 0)} {
		p.fill(t, r, 7)
		for pointers := range 4 {
			for raws := range 6 - pointers {
				p.setWord(t, r, 0, headerOf(sh(pointers, raws), 3, 2, pointers%2 == 0))
				for i := -1; i <= 6; i++ {
					p.pointer(t, r, i)
					p.setPointer(t, r, i, ref.Ref(2*i+31))
					p.raw(t, r, i)
					p.setRaw(t, r, i, uint64(i+90))
				}
				p.check(t, "another header", r, pointers, raws)
			}
		}
	}
}

// P16.5

// What a call takes is within its bounds, however many objects there are and
// however many words they have; and each call for an object that exists takes
// a step, though it fails.
func TestSteps(t *testing.T) {
	p := newPair(t, 64, 100000)
	s, m := p.got, p.got.Mem()
	var list []ref.Ref
	for i := range 800 {
		var r ref.Ref
		n := steps(m, func() { r, _ = s.Make(sh(1+i%9, 1+i*5), i%32) })
		if r == ref.Nil || n < 1 || n > 30 {
			t.Fatalf("Make: %d, %d steps", r, n)
		}
		list = append(list, r)
	}
	for _, c := range []struct {
		name string
		call func(r ref.Ref)
	}{
		{"Word", func(r ref.Ref) { s.Word(r, 1) }},
		{"Word 0", func(r ref.Ref) { s.Word(r, 0) }},
		{"Word of none", func(r ref.Ref) { s.Word(r, 1000000) }},
		{"Word of none", func(r ref.Ref) { s.Word(r, -1000000) }},
		{"Word of none", func(r ref.Ref) { s.Word(r, math.MaxInt) }},
		{"Word of none", func(r ref.Ref) { s.Word(r, math.MinInt) }},
		{"SetWord", func(r ref.Ref) { s.SetWord(r, 1, 9) }},
		{"SetWord of what it is", func(r ref.Ref) { s.SetWord(r, 1, 9) }},
		{"SetWord of none", func(r ref.Ref) { s.SetWord(r, 1000000, 9) }},
		{"SetWord of none", func(r ref.Ref) { s.SetWord(r, -1000000, 9) }},
		{"SetWord of none", func(r ref.Ref) { s.SetWord(r, math.MaxInt, 9) }},
		{"SetWord of none", func(r ref.Ref) { s.SetWord(r, math.MinInt, 9) }},
		{"Header", func(r ref.Ref) { s.Header(r) }},
		{"Pointer", func(r ref.Ref) { s.Pointer(r, 0) }},
		{"Pointer of none", func(r ref.Ref) { s.Pointer(r, 9) }},
		{"Pointer of none", func(r ref.Ref) { s.Pointer(r, -1) }},
		{"SetPointer", func(r ref.Ref) { s.SetPointer(r, 0, r) }},
		{"SetPointer to nil", func(r ref.Ref) { s.SetPointer(r, 0, ref.Nil) }},
		{"SetPointer of none", func(r ref.Ref) { s.SetPointer(r, 9, r) }},
		{"SetPointer to no reference", func(r ref.Ref) { s.SetPointer(r, 0, 1<<50) }},
		{"Raw", func(r ref.Ref) { s.Raw(r, 0) }},
		{"Raw of none", func(r ref.Ref) { s.Raw(r, 4095) }},
		{"SetRaw", func(r ref.Ref) { s.SetRaw(r, 0, 3) }},
		{"SetRaw of none", func(r ref.Ref) { s.SetRaw(r, -1, 3) }},
		{"SetWord of the header", func(r ref.Ref) { s.SetWord(r, 0, 5) }},
		{"Header of no header", func(r ref.Ref) { s.Header(r) }},
		{"Pointer of no header", func(r ref.Ref) { s.Pointer(r, 0) }},
		{"SetPointer of no header", func(r ref.Ref) { s.SetPointer(r, 0, r) }},
		{"Raw of no header", func(r ref.Ref) { s.Raw(r, 0) }},
		{"SetRaw of no header", func(r ref.Ref) { s.SetRaw(r, 0, 3) }},
	} {
		for _, r := range list {
			if n := steps(m, func() { c.call(r) }); n < 1 || n > 8 {
				t.Errorf("%s(%d): %d steps", c.name, r, n)
			}
		}
		for _, r := range append(badRefs(), ref.Nil) {
			if n := steps(m, func() { c.call(r) }); n != 0 {
				t.Errorf("%s(%d): %d steps", c.name, r, n)
			}
		}
		for _, r := range []ref.Ref{2*99999 + 1, 2*mostWords - 1, 2 * 801, 2 * mostIds} {
			if n := steps(m, func() { c.call(r) }); n > 8 {
				t.Errorf("%s(%d): %d steps", c.name, r, n)
			}
		}
	}
}

// Making an object takes no more steps where it fails, or where its number was
// another one's.
func TestStepsOfMake(t *testing.T) {
	p := newPair(t, 8, 50)
	for i := range 40 {
		p.make(t, sh(i%7, 0), 0)
		p.make(t, sh(4095, 4095-i), 0)
		p.make(t, sh(i, 9), 32)
		p.make(t, sh(-1, 9), 0)
		if i%10 == 9 {
			p.sweep(t)
		}
	}
	p.check(t, "Make")
}

// P16.6

// Each word of each object is written, and all others stay, whatever methods
// are taken for it.
func TestObjectsAreApart(t *testing.T) {
	p := newPair(t, 6, 60)
	var made []ref.Ref
	for i, s := range []api.Shape{sh(2, 2), sh(4, 4), sh(0, 0), sh(0, 5), sh(1, 6), sh(5, 0), sh(3, 1), sh(0, 9), sh(9, 0), sh(1, 0), sh(0, 1)} {
		made = append(made, p.must(t, s.Pointers, s.Raws, i))
		p.fill(t, made[i], i+1)
		p.check(t, "Make", s)
	}
	for round := range 3 {
		for i, r := range made {
			h, _ := p.want.header(r)
			for k := range h.Shape.Pointers {
				p.setPointer(t, r, k, made[(i+k+round)%len(made)])
				p.check(t, "SetPointer", r, k)
			}
			for k := range h.Shape.Raws {
				p.setRaw(t, r, k, uint64(round)<<50+uint64(100*i+k))
				p.check(t, "SetRaw", r, k)
			}
			for word := range 1 + h.Shape.Pointers + h.Shape.Raws {
				p.word(t, r, word)
			}
		}
	}
}

// run makes calls that follow no short rule, of which some fail, and tells
// check of each.
func (p *pair) run(t *testing.T, seed noise, calls int, check func(call string, e api.Errno)) {
	t.Helper()
	for range calls {
		r, i, w := p.some(&seed), seed.some(6), seed.word()>>seed.below(64)
		var e api.Errno
		var call string
		switch n := seed.below(60); {
		case n < 12:
			call = "Make"
			_, e = p.make(t, sh(seed.some(4), seed.some(5)), seed.some(32))
		case n < 18:
			call, e = "Word", p.word(t, r, i)
		case n < 22:
			// Objects keep their headers for the most part.
			if place, _ := p.want.word(r, i); i == 0 || held(place)>>62 == 1 {
				if seed.below(4) > 0 {
					continue
				}
				w = 0
			}
			call, e = "SetWord", p.setWord(t, r, i, w&^(1<<62))
		case n < 27:
			call, e = "Header", p.header(t, r)
		case n < 34:
			call, e = "Pointer", p.pointer(t, r, i)
		case n < 42:
			call, e = "SetPointer", p.setPointer(t, r, i, p.some(&seed))
		case n < 49:
			call, e = "Raw", p.raw(t, r, i)
		case n < 56:
			call, e = "SetRaw", p.setRaw(t, r, i, w&^(1<<62))
		case n < 57:
			call = "Resize"
			p.resize(t, seed.below(80))
		case n < 58:
			call = "Sweep"
			var stay []ref.Ref
			for _, r := range p.want.starts {
				if seed.below(3) > 0 {
					stay = append(stay, r)
				}
			}
			p.sweep(t, stay...)
		default:
			if seed.below(8) > 0 {
				continue
			}
			call = "Flip"
			p.flip(t, seed.below(60))
		}
		check(call, e)
	}
}

// some returns a reference, mostly to an object that there is.
func (p *pair) some(seed *noise) ref.Ref {
	n := len(p.want.starts)
	switch seed.below(12) {
	case 0:
		return ref.Nil
	case 1:
		return badRefs()[seed.below(len(badRefs()))]
	case 2:
		return ref.Ref(seed.below(60))
	}
	if n == 0 {
		return ref.Nil
	}
	return p.want.starts[seed.below(n)]
}

// Long runs of calls, with all words and steps.
func TestRuns(t *testing.T) {
	seen := map[string]int{}
	most := 0
	for seed := range noise(20) {
		p := newPair(t, leastSmall+int(seed)%6, 20+int(seed))
		p.run(t, seed, 1500, func(call string, e api.Errno) {
			seen[fmt.Sprint(call, " ", e)]++
			most = max(most, len(p.want.starts))
			p.check(t, call)
		})
	}
	for _, call := range []string{
		"Make 0", "Make 3", "Make 20", "Make 21", "Word 0", "Word 4", "Word 5", "Word 11", "Word 31", "SetWord 0", "SetWord 4", "SetWord 5", "SetWord 11", "SetWord 31",
		"Header 0", "Header 4", "Header 5", "Header 31", "Pointer 0", "Pointer 5", "Pointer 31", "Pointer 32", "SetPointer 0", "SetPointer 5", "SetPointer 31", "SetPointer 32",
		"Raw 0", "Raw 5", "Raw 31", "Raw 32", "SetRaw 0", "SetRaw 5", "SetRaw 31", "SetRaw 32", "Resize 0", "Sweep 0", "Flip 0",
	} {
		if seen[call] < 20 {
			t.Errorf("%s: %d times only", call, seen[call])
		}
	}
	if most < 20 {
		t.Errorf("%d objects only", most)
	}
}

// P1

// Calls end and do not panic, whatever was done to the spaces, even if they do
// not exist any more.
func TestCallsEndForAllSpaces(t *testing.T) {
	for seed := range noise(300) {
		s, _ := store.New(leastSmall+seed.below(10), seed.below(90))
		m := s.Mem()
		for range 12 {
			s.Make(sh(seed.below(5), seed.below(5)), seed.below(32))
		}
		for id := range 4 {
			words, _ := m.Look(id)
			for at := range words {
				switch seed.below(6) {
				case 0:
					m.Write(id, at, seed.word()>>seed.below(64))
				case 1:
					m.Write(id, at, headerOf(sh(seed.below(4096), seed.below(4096)), 1, 1, true))
				}
			}
			switch seed.below(5) {
			case 0:
				m.Close(id)
			case 1:
				m.Close(id)
				m.Open(seed.below(90))
			}
		}
		if seed.below(4) == 0 {
			s.Semi().Flip(seed.below(40))
			s.Semi().Move(seed.below(40), seed.below(10))
		}
		for range 200 {
			r, i, w := ref.Ref(seed.below(60)), seed.some(9), seed.word()
			if seed.below(8) == 0 {
				r = ref.Ref(seed.word() >> seed.below(64))
			}
			s.Make(sh(seed.some(9), seed.some(9)), seed.some(32))
			s.Word(r, i)
			s.SetWord(r, i, w)
			s.Header(r)
			s.Pointer(r, i)
			s.SetPointer(r, i, ref.Ref(w>>seed.below(64)))
			s.Raw(r, i)
			s.SetRaw(r, i, w)
			s.Small()
		}
	}
}

// P2 (rules 3 and 4)

func TestFailedCallsHaveNoEffect(t *testing.T) {
	for seed := range noise(8) {
		p := newPair(t, 4, 60)
		m := p.got.Mem()
		look := func() string {
			out := []any{m.Held(), m.High(), m.Spaces(), p.got.Small(), p.got.Semi().Top(), p.got.Large().Count(), p.got.Large().Words()}
			for id := range m.Spaces() + 20 {
				words, e := m.Look(id)
				out = append(out, words, e)
			}
			for id := range p.got.Large().All() {
				out = append(out, id)
			}
			return fmt.Sprint(out...)
		}
		before, failed := look(), 0
		p.run(t, 100+seed, 1000, func(call string, e api.Errno) {
			now := look()
			if e != api.OK || slices.Contains([]string{"Word", "Header", "Pointer", "Raw"}, call) {
				failed++
				if now != before {
					t.Fatalf("%s, error %d, changed %s to %s", call, e, before, now)
				}
			}
			before = now
		})
		if failed < 300 {
			t.Errorf("%d calls failed only", failed)
		}
	}
}

// The same calls have the same results, and take the same steps.
func TestTheSameCalls(t *testing.T) {
	run := func() []string {
		p := newPair(t, 5, 40)
		var out []string
		p.run(t, 200, 500, func(string, api.Errno) { out = append(out, p.tell(), counted(p.got.Mem())) })
		return out
	}
	if !slices.Equal(run(), run()) {
		t.Errorf("the same calls differ")
	}
}

// Each Store has its own Mem, and leaves others alone.
func TestStoresAreApart(t *testing.T) {
	list := []*pair{newPair(t, 2, 50), newPair(t, 8, 70), newPair(t, 8, 70)}
	for i := range 60 {
		for at, p := range list {
			before := []string{}
			for _, q := range list {
				before = append(before, counted(q.got.Mem()))
			}
			p.run(t, noise(1000*i+at), 15, func(string, api.Errno) {})
			for k, q := range list {
				if k != at && counted(q.got.Mem()) != before[k] {
					t.Fatalf("a call on another Store: %s, not %s", counted(q.got.Mem()), before[k])
				}
			}
			for _, q := range list {
				q.check(t, "a call on another Store")
			}
		}
	}
}

// A Store shows the chapter's methods and nothing else, and all that it keeps
// beside its Mem is where the objects are, in a struct that it embeds, and a
// number.
func TestNothingElseIsExported(t *testing.T) {
	of := reflect.TypeFor[*store.Store]()
	var got []string
	for i := range of.NumMethod() {
		got = append(got, of.Method(i).Name)
	}
	want := []string{"Header", "Large", "Make", "Mem", "Pointer", "Raw", "Semi", "SetPointer", "SetRaw", "SetWord", "Small", "Word"}
	if !slices.Equal(got, want) {
		t.Errorf("methods: %v", got)
	}
	var kept []string
	var look func(of reflect.Type)
	look = func(of reflect.Type) {
		for i := range of.NumField() {
			f := of.Field(i)
			if f.IsExported() {
				t.Errorf("field %s is exported", f.Name)
			}
			if f.Anonymous && f.Type.Kind() == reflect.Struct {
				kept = append(kept, "embedded")
				look(f.Type)
			} else {
				kept = append(kept, f.Type.String())
			}
		}
	}
	look(of.Elem())
	slices.Sort(kept)
	if !slices.Equal(kept, []string{"*large.Large", "*mem.Mem", "*semi.Semi", "embedded", "int"}) {
		t.Errorf("fields: %v", kept)
	}
}
