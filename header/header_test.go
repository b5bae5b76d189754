package header_test

import (
	"math"
	"slices"
	"testing"

	"haymow/api"
	"haymow/header"
)

// The limits and the places in a word, written out.
const (
	lastField = 4095
	lastSite  = 31
	lastAge   = 7
	lastIndex = 4194303

	rawsUnit  = 4096       // 1 in bit 12
	siteUnit  = 16777216   // 1 in bit 24
	ageUnit   = 536870912  // 1 in bit 29
	largeUnit = 4294967296 // 1 in bit 32

	headerMark  = 0x4000000000000000
	forwardMark = 0x8000000000000000
)

// small is the header of a small object from its numbers.
func small(pointers, raws, site, age int) api.Header {
	return api.Header{Shape: api.Shape{Pointers: pointers, Raws: raws}, Site: site, Age: age}
}

// large is that of a large object.
func large(pointers, raws, site, age int) api.Header {
	h := small(pointers, raws, site, age)
	h.Large = true
	return h
}

// word is the header word of a valid header, by sums and not by bits.
func word(h api.Header) uint64 {
	w := uint64(headerMark) + uint64(h.Shape.Pointers) + uint64(h.Shape.Raws)*rawsUnit + uint64(h.Site)*siteUnit + uint64(h.Age)*ageUnit
	if h.Large {
		w += largeUnit
	}
	return w
}

// telling are numbers from 0 to most: the ends, and those around each power of 2.
func telling(most int) []int {
	out := []int{0, most}
	for p := 1; p <= most; p *= 2 {
		for _, n := range []int{p - 1, p, p + 1, most - p} {
			if n >= 0 && n <= most {
				out = append(out, n)
			}
		}
	}
	slices.Sort(out)
	return slices.Compact(out)
}

// outside are ints that are not between 0 and most, which is less by 1 than a
// power of 2: among them those that are valid again when they are cut to fewer
// bits, or when their sign is lost.
func outside(most int) []int {
	out := []int{most + 1, most + 2, 2*most + 1, -1, -2, -3, -most, -most - 1, -most - 2,
		math.MinInt, math.MinInt + 1, math.MinInt + 5, math.MinInt32, math.MaxInt32, math.MaxInt - 1, math.MaxInt}
	for p := most + 1; p > 0; p *= 2 {
		out = append(out, p, p+1, p+most, -p, -p+1, -p+most/2)
	}
	return slices.DeleteFunc(out, func(n int) bool { return n >= 0 && n <= most })
}

// someHeaders are valid headers: all sites and ages with each pair of telling
// numbers of fields, and all numbers of fields.
func someHeaders(yield func(h api.Header) bool) {
	for _, pointers := range telling(lastField) {
		for _, raws := range telling(lastField) {
			for n := range 512 {
				h := small(pointers, raws, n%32, n/32%8)
				h.Large = n >= 256
				if !yield(h) {
					return
				}
			}
		}
	}
	for n := range lastField + 1 {
		for _, m := range telling(lastField) {
			if !yield(small(n, m, n%32, m%8)) || !yield(large(m, n, m%32, n%8)) {
				return
			}
		}
	}
}

// patterns are the words with at most three bits that are 1 and those with at
// most two that are 0.
func patterns(yield func(w uint64) bool) {
	for a := range 65 {
		for b := range a + 1 {
			// A bit beyond the word is none.
			pair := uint64(1)<<a | uint64(1)<<b
			if !yield(^pair) {
				return
			}
			for c := range b + 1 {
				if !yield(pair | uint64(1)<<c) {
					return
				}
			}
		}
	}
}

// nearWords are words around the marks and the ends of the fields that lie
// lowest, and around the ends of the words.
func nearWords(yield func(w uint64) bool) {
	for _, mark := range []uint64{0, headerMark, forwardMark, headerMark + forwardMark} {
		for _, start := range []uint64{0, rawsUnit, 1 << 22, 1 << 23, siteUnit, ageUnit, largeUnit, 1 << 33, 1 << 34, 1 << 61} {
			for n := range uint64(5000) {
				if !yield(mark+start+n) || !yield(mark+start-1-n) {
					return
				}
			}
		}
	}
}

// mean is what a word tells: a header, an index, or nothing. It takes the
// fields off from the top, by divisions.
func mean(w uint64) (h api.Header, isHeader bool, at int, isForward bool) {
	if w >= forwardMark && w <= forwardMark+lastIndex {
		return api.Header{}, false, int(w - forwardMark), true
	}
	if w < headerMark || w >= headerMark+2*largeUnit {
		return api.Header{}, false, 0, false
	}
	rest := w - headerMark
	h.Large, rest = rest >= largeUnit, rest%largeUnit
	h.Age, rest = int(rest/ageUnit), rest%ageUnit
	h.Site, rest = int(rest/siteUnit), rest%siteUnit
	h.Shape = api.Shape{Pointers: int(rest % rawsUnit), Raws: int(rest / rawsUnit)}
	return h, true, 0, false
}

// older is h after one more collection.
func older(h api.Header) api.Header {
	if h.Age < lastAge {
		h.Age++
	}
	return h
}

// checkWord holds everything that is told of a word against the promises.
func checkWord(t *testing.T, w uint64) {
	h, isHeader, at, isForward := mean(w)
	wantError, wantOlder := api.ErrForm, uint64(0)
	if isHeader {
		wantError, wantOlder = api.OK, word(older(h))
	}
	got, e := header.Unpack(w)
	if got != h || e != wantError {
		t.Fatalf("Unpack(%x): %v, %d, not %v, %d", w, got, e, h, wantError)
	}
	next, e2 := header.Older(w)
	if next != wantOlder || e2 != wantError {
		t.Fatalf("Older(%x): %x, %d, not %x, %d", w, next, e2, wantOlder, wantError)
	}
	gotAt, ok := header.Forwarded(w)
	if gotAt != at || ok != isForward {
		t.Fatalf("Forwarded(%x): %d, %v, not %d, %v", w, gotAt, ok, at, isForward)
	}
	if e == api.OK && ok { // P12.3
		t.Fatalf("%x is a header word and a forwarding word", w)
	}
}

// checkInvalid holds what is told of an invalid header against the error that
// is due for it.
func checkInvalid(t *testing.T, h api.Header, want api.Errno) {
	for _, isLarge := range []bool{false, true} {
		h.Large = isLarge
		if e := header.Check(h); e != want {
			t.Errorf("Check(%v): %d, not %d", h, e, want)
		}
		if w, e := header.Pack(h); w != 0 || e != want {
			t.Errorf("Pack(%v): %x, %d, not 0, %d", h, w, e, want)
		}
		// P1: it returns, though nothing is promised of what.
		header.Words(h)
	}
}

// P12.1

func TestPack(t *testing.T) {
	for _, c := range []struct {
		h     api.Header
		w     uint64
		words int
	}{
		{small(1, 2, 0, 0), 0x4000000000002001, 4}, // the chapter's example
		{small(0, 0, 0, 0), 0x4000000000000000, 1},
		{small(1, 0, 0, 0), 0x4000000000000001, 2},
		{small(0, 1, 0, 0), 0x4000000000001000, 2},
		{small(0, 0, 1, 0), 0x4000000001000000, 1},
		{small(0, 0, 0, 1), 0x4000000020000000, 1},
		{large(0, 0, 0, 0), 0x4000000100000000, 1},
		{large(1, 2, 0, 0), 0x4000000100002001, 4},
		// The greatest number of each field, alone and together.
		{small(4095, 0, 0, 0), 0x4000000000000fff, 4096},
		{small(0, 4095, 0, 0), 0x4000000000fff000, 4096},
		{small(0, 0, 31, 0), 0x400000001f000000, 1},
		{small(0, 0, 0, 7), 0x40000000e0000000, 1},
		{small(4095, 4095, 31, 7), 0x40000000ffffffff, 8191},
		{large(4095, 4095, 31, 7), 0x40000001ffffffff, 8191},
		{large(4094, 4095, 31, 7), 0x40000001fffffffe, 8190},
		{large(4095, 4094, 31, 7), 0x40000001ffffefff, 8190},
		{large(4095, 4095, 30, 7), 0x40000001feffffff, 8191},
		{large(4095, 4095, 31, 6), 0x40000001dfffffff, 8191},
		{large(2748, 3567, 18, 5), 0x40000001b2defabc, 6316},
		{small(2748, 3567, 18, 5), 0x40000000b2defabc, 6316},
		{small(3, 60, 5, 2), 0x400000004503c003, 64},
	} {
		if e := header.Check(c.h); e != api.OK {
			t.Errorf("Check(%v): %d", c.h, e)
		}
		if w, e := header.Pack(c.h); w != c.w || e != api.OK {
			t.Errorf("Pack(%v): %x, %d, not %x", c.h, w, e, c.w)
		}
		if h, e := header.Unpack(c.w); h != c.h || e != api.OK {
			t.Errorf("Unpack(%x): %v, %d, not %v", c.w, h, e, c.h)
		}
		if n := header.Words(c.h); n != c.words {
			t.Errorf("Words(%v): %d, not %d", c.h, n, c.words)
		}
	}
}

func TestErrors(t *testing.T) {
	for _, c := range []struct {
		h api.Header
		e api.Errno
	}{
		{small(4096, 0, 0, 0), api.ErrShape},
		{small(0, 4096, 0, 0), api.ErrShape},
		{small(-1, 0, 0, 0), api.ErrShape},
		{small(0, -1, 0, 0), api.ErrShape},
		{small(4096, 4096, 0, 0), api.ErrShape},
		{small(-1, 1, 0, 0), api.ErrShape}, // their sum could be a right one
		{small(1, -1, 0, 0), api.ErrShape},
		{small(4096, -1, 0, 0), api.ErrShape},
		{small(math.MaxInt, math.MaxInt, 0, 0), api.ErrShape},
		{small(math.MinInt, math.MinInt, 0, 0), api.ErrShape},
		{small(0, 0, 32, 0), api.ErrSite},
		{small(4095, 4095, 32, 7), api.ErrSite},
		{small(0, 0, -1, 0), api.ErrSite},
		{small(0, 0, 0, 8), api.ErrRange},
		{small(4095, 4095, 31, 8), api.ErrRange},
		{small(0, 0, 0, -1), api.ErrRange},
		// Several errors: the Shape comes first, then the Site.
		{small(4096, 0, 32, 8), api.ErrShape},
		{small(0, 4096, 32, 8), api.ErrShape},
		{small(4096, 0, 32, 0), api.ErrShape},
		{small(0, -1, 0, 8), api.ErrShape},
		{small(-1, 0, -1, -1), api.ErrShape},
		{small(0, 0, 32, 8), api.ErrSite},
		{small(4095, 4095, -1, 8), api.ErrSite},
		{small(0, 0, 32, -1), api.ErrSite},
	} {
		checkInvalid(t, c.h, c.e)
	}
}

func TestNumbersOutside(t *testing.T) {
	for _, other := range []int{0, 1, 5} {
		for _, n := range outside(lastField) {
			checkInvalid(t, small(n, other, other, other), api.ErrShape)
			checkInvalid(t, small(other, n, other, other), api.ErrShape)
			checkInvalid(t, small(n, n, other, other), api.ErrShape)
			checkInvalid(t, small(n, -n, other, other), api.ErrShape)
		}
		for _, n := range outside(lastSite) {
			checkInvalid(t, small(other, other, n, other), api.ErrSite)
		}
		for _, n := range outside(lastAge) {
			checkInvalid(t, small(other, other, other, n), api.ErrRange)
		}
	}
}

func TestOrderOfErrors(t *testing.T) {
	// Every choice of what is invalid, with numbers that are too great and too small.
	for n := range 81 {
		pick := func(digit, most int) int { return []int{most, most + 1, -1}[digit%3] }
		p, r, s, a := n, n/3, n/9, n/27
		h := small(pick(p, lastField), pick(r, lastField), pick(s, lastSite), pick(a, lastAge))
		switch {
		case p%3+r%3 > 0:
			checkInvalid(t, h, api.ErrShape)
		case s%3 > 0:
			checkInvalid(t, h, api.ErrSite)
		case a%3 > 0:
			checkInvalid(t, h, api.ErrRange)
		default:
			if e := header.Check(h); e != api.OK {
				t.Errorf("Check(%v): %d", h, e)
			}
		}
	}
}

// P12.1, P12.2, P12.3

func TestSomeHeaders(t *testing.T) {
	for h := range someHeaders {
		if e := header.Check(h); e != api.OK {
			t.Fatalf("Check(%v): %d", h, e)
		}
		w, e := header.Pack(h)
		if w != word(h) || e != api.OK {
			t.Fatalf("Pack(%v): %x, %d, not %x", h, w, e, word(h))
		}
		if n := header.Words(h); n != h.Shape.Pointers+h.Shape.Raws+1 {
			t.Fatalf("Words(%v): %d", h, n)
		}
		if back, _, _, _ := mean(w); back != h {
			t.Fatalf("%x means %v, not %v", w, back, h)
		}
		checkWord(t, w)
		// Marks that are not those of a header word.
		checkWord(t, w-headerMark)
		checkWord(t, w+headerMark)
		checkWord(t, w+forwardMark)
	}
}

func TestPatterns(t *testing.T) {
	for w := range patterns {
		checkWord(t, w)
	}
}

func TestNearWords(t *testing.T) {
	for w := range nearWords {
		checkWord(t, w)
	}
}

func TestMixedWords(t *testing.T) {
	// Words of mixed bits, by a rule that comes by each word once; with the upper
	// bits cleared, so that many are words of one kind or nearly so.
	w := uint64(1)
	for range 200000 {
		w = w*6364136223846793005 + 1442695040888963407
		checkWord(t, w)
		for _, low := range []uint64{22, 23, 33, 34} {
			rest := w >> 7 % (1 << low)
			checkWord(t, rest)
			checkWord(t, headerMark+rest)
			checkWord(t, forwardMark+rest)
			checkWord(t, headerMark+forwardMark+rest)
		}
	}
}

func TestUnpackOfOtherWords(t *testing.T) {
	for _, w := range []uint64{
		0, 1, 0x2001, 0x100002001, // without the mark
		0x4000000200002001, 0x4000010000002001, 0x6000000000002001, // a bit that is to be 0
		0xc000000000002001, 0x8000000000002001, // the mark of a forwarding word
		0x2000000000002001, 0x8000000000000005, 0x3fffffffffffffff, 0x7fffffffffffffff, math.MaxUint64,
	} {
		if h, e := header.Unpack(w); h != (api.Header{}) || e != api.ErrForm {
			t.Errorf("Unpack(%x): %v, %d", w, h, e)
		}
		if next, e := header.Older(w); next != 0 || e != api.ErrForm {
			t.Errorf("Older(%x): %x, %d", w, next, e)
		}
	}
}

// P12.2

func TestOlder(t *testing.T) {
	for _, c := range []struct{ w, want uint64 }{
		{0x4000000000002001, 0x4000000020002001},
		{0x4000000000000000, 0x4000000020000000},
		{0x4000000020002001, 0x4000000040002001},
		{0x4000000060002001, 0x4000000080002001},
		{0x40000000c0002001, 0x40000000e0002001},
		{0x40000000e0002001, 0x40000000e0002001}, // 7 is the greatest age
		{0x40000001e0000000, 0x40000001e0000000},
		{0x40000001ffffffff, 0x40000001ffffffff},
		{0x40000001dfffffff, 0x40000001ffffffff},
		{0x400000011fffffff, 0x400000013fffffff},
		{0x400000001fffffff, 0x400000003fffffff},
	} {
		if w, e := header.Older(c.w); w != c.want || e != api.OK {
			t.Errorf("Older(%x): %x, %d, not %x", c.w, w, e, c.want)
		}
	}
}

func TestOlderAgainAndAgain(t *testing.T) {
	h := large(2748, 3567, 18, 0)
	w, e := header.Pack(h)
	for n := range 20 {
		h.Age = min(n, 7)
		if got, _ := header.Unpack(w); got != h || e != api.OK {
			t.Fatalf("after %d collections: %v, %d", n, got, e)
		}
		w, e = header.Older(w)
	}
}

func TestForward(t *testing.T) {
	for _, c := range []struct {
		at int
		w  uint64
		e  api.Errno
	}{
		{5, 0x8000000000000005, api.OK}, // the chapter's example
		{0, 0x8000000000000000, api.OK},
		{1, 0x8000000000000001, api.OK},
		{4095, 0x8000000000000fff, api.OK},
		{4096, 0x8000000000001000, api.OK},
		{1048575, 0x80000000000fffff, api.OK},
		{1048576, 0x8000000000100000, api.OK}, // no bound but that of a space holds here
		{2097152, 0x8000000000200000, api.OK},
		{4194302, 0x80000000003ffffe, api.OK},
		{4194303, 0x80000000003fffff, api.OK},
		{4194304, 0, api.ErrRange},
		{4194305, 0, api.ErrRange},
		{-1, 0, api.ErrRange},
	} {
		if w, e := header.Forward(c.at); w != c.w || e != c.e {
			t.Errorf("Forward(%d): %x, %d, not %x, %d", c.at, w, e, c.w, c.e)
		}
	}
}

func TestEveryIndex(t *testing.T) {
	want := uint64(forwardMark)
	for at := range lastIndex + 1 {
		w, e := header.Forward(at)
		if w != want || e != api.OK {
			t.Fatalf("Forward(%d): %x, %d", at, w, e)
		}
		if back, ok := header.Forwarded(w); back != at || !ok {
			t.Fatalf("Forwarded(%x): %d, %v", w, back, ok)
		}
		if h, e := header.Unpack(w); h != (api.Header{}) || e != api.ErrForm { // P12.3
			t.Fatalf("Unpack(%x): %v, %d", w, h, e)
		}
		want++
	}
}

func TestIndicesOutside(t *testing.T) {
	list := outside(lastIndex)
	for n := range 10000 {
		list = append(list, lastIndex+1+n, -1-n)
	}
	for _, at := range list {
		if w, e := header.Forward(at); w != 0 || e != api.ErrRange {
			t.Errorf("Forward(%d): %x, %d", at, w, e)
		}
	}
}

func TestForwardedOfOtherWords(t *testing.T) {
	for _, w := range []uint64{
		0, 1, 5, 0x3fffff, // without the mark
		0x4000000000000005, 0xc000000000000005, 0x4000000000002001, // the mark of a header word
		0x8000000000400000, 0x8000000000400005, 0x8000000000ffffff, // beyond the greatest index
		0x8000000100000005, 0xa000000000000005, 0x8000000000800000, 0x7fffffffffffffff, math.MaxUint64,
	} {
		if at, ok := header.Forwarded(w); at != 0 || ok {
			t.Errorf("Forwarded(%x): %d, %v", w, at, ok)
		}
	}
}

// P12.3

func TestZeroIsNoWordOfEitherKind(t *testing.T) {
	if h, e := header.Unpack(0); h != (api.Header{}) || e != api.ErrForm {
		t.Errorf("Unpack(0): %v, %d", h, e)
	}
	if at, ok := header.Forwarded(0); at != 0 || ok {
		t.Errorf("Forwarded(0): %d, %v", at, ok)
	}
	// The least words of each kind, which have nothing but their marks.
	if w, e := header.Pack(api.Header{}); w == 0 || e != api.OK {
		t.Errorf("Pack: %x, %d", w, e)
	}
	if w, e := header.Forward(0); w == 0 || e != api.OK {
		t.Errorf("Forward: %x, %d", w, e)
	}
}
