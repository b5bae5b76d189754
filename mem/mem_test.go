package mem_test

import (
	"math"
	"reflect"
	"slices"
	"testing"

	"haymow/api"
	"haymow/mem"
	"haymow/meter"
)

// The calls have these signatures exactly.
var (
	_ func() *mem.Mem                                   = mem.New
	_ func(*mem.Mem) int                                = (*mem.Mem).Spaces
	_ func(*mem.Mem, int) (int, api.Errno)              = (*mem.Mem).Open
	_ func(*mem.Mem, int) api.Errno                     = (*mem.Mem).Close
	_ func(*mem.Mem, int) (int, api.Errno)              = (*mem.Mem).Size
	_ func(*mem.Mem, int, int) api.Errno                = (*mem.Mem).Grow
	_ func(*mem.Mem, int, int) (uint64, api.Errno)      = (*mem.Mem).Read
	_ func(*mem.Mem, int, int, uint64) api.Errno        = (*mem.Mem).Write
	_ func(*mem.Mem, int, int, int) api.Errno           = (*mem.Mem).Zero
	_ func(*mem.Mem, int, int, int, int, int) api.Errno = (*mem.Mem).Copy
	_ func(*mem.Mem, int) ([]uint64, api.Errno)         = (*mem.Mem).Look
	_ *meter.Meter                                      = mem.New().Meter
	_ interface {
		Step(meter.Kind, int)
		Of(meter.Kind) api.Wide
		Steps() api.Wide
		Since(api.Wide) api.Wide
		Hold(int) api.Errno
		Free(int) api.Errno
		Held() int
		High() int
	} = mem.New()
)

// steps fails unless so many words were read and written so far.
func steps(t *testing.T, m *mem.Mem, reads, writes uint64) {
	t.Helper()
	if r, w := m.Of(meter.Reads), m.Of(meter.Writes); r != (api.Wide{Lo: reads}) || w != (api.Wide{Lo: writes}) {
		t.Errorf("%v reads and %v writes, not %d and %d", r, w, reads, writes)
	}
	if m.Steps() != (api.Wide{Lo: reads + writes}) || m.Meter.Steps() != m.Steps() {
		t.Errorf("%v steps, not %d", m.Steps(), reads+writes)
	}
}

// words fails unless a space has these words.
func words(t *testing.T, m *mem.Mem, id int, want ...uint64) {
	t.Helper()
	got, e := m.Look(id)
	size, f := m.Size(id)
	if !slices.Equal(got, want) || size != len(want) || e != api.OK || f != api.OK {
		t.Errorf("space %d: %v, %d words, errors %d and %d, not %v", id, got, size, e, f, want)
	}
}

// P8.1

func TestNew(t *testing.T) {
	m := mem.New()
	if m == nil || m.Meter == nil {
		t.Fatal("New: nil")
	}
	if m.Spaces() != 0 || m.Held() != 0 || m.High() != 0 {
		t.Errorf("New: %d spaces, Held %d, High %d", m.Spaces(), m.Held(), m.High())
	}
	steps(t, m, 0, 0)
	newPair().check(t, "New")
}

// The example of the chapter, which is the third one of the document.
func TestExample(t *testing.T) {
	m := mem.New()
	id, e := m.Open(3)
	if id != 0 || e != api.OK {
		t.Fatalf("Open: %d, error %d", id, e)
	}
	if e := m.Write(id, 1, 77); e != api.OK {
		t.Errorf("Write: error %d", e)
	}
	if e := m.Grow(id, 5); e != api.OK {
		t.Errorf("Grow: error %d", e)
	}
	if w, e := m.Read(id, 1); w != 77 || e != api.OK {
		t.Errorf("Read: %d, error %d", w, e)
	}
	steps(t, m, 1, 1)
	if m.Held() != 5 || m.High() != 5 {
		t.Errorf("Held %d, High %d", m.Held(), m.High())
	}
}

func TestOpenErrors(t *testing.T) {
	p := newPair()
	p.fill(t, 2)
	before := tell(p.got)
	for _, c := range []struct {
		words int
		want  api.Errno
	}{
		{-1, api.ErrArg},
		{-2, api.ErrArg},
		{-mostWords, api.ErrArg},
		{math.MinInt, api.ErrArg},
		{mostWords + 1, api.ErrLong},
		{mostWords * 2, api.ErrLong},
		{1 << 32, api.ErrLong},
		{1<<32 + 1, api.ErrLong},
		{math.MaxInt, api.ErrLong},
	} {
		if id, e := p.got.Open(c.words); id != 0 || e != c.want {
			t.Errorf("Open(%d): %d, error %d, not %d", c.words, id, e, c.want)
		}
	}
	if got := tell(p.got); got != before {
		t.Errorf("failed calls changed %s to %s", before, got)
	}
}

func TestOpenedWordsAreZero(t *testing.T) {
	p := newPair()
	for size := range 10 {
		if id, e := p.open(t, size); id != size || e != api.OK {
			t.Errorf("Open(%d): %d, error %d", size, id, e)
		}
		words(t, p.got, size, make([]uint64, size)...)
		p.check(t, "Open", size)
	}
	if p.got.Held() != 45 || p.got.High() != 45 || p.got.Spaces() != 10 {
		t.Errorf("Held %d, High %d, %d spaces", p.got.Held(), p.got.High(), p.got.Spaces())
	}
}

func TestTheMostWords(t *testing.T) {
	m := mem.New()
	if id, e := m.Open(mostWords - 1); id != 0 || e != api.OK {
		t.Fatalf("Open: %d, error %d", id, e)
	}
	if id, e := m.Open(mostWords); id != 1 || e != api.OK {
		t.Fatalf("Open: %d, error %d", id, e)
	}
	for at, want := range map[int]api.Errno{0: api.OK, mostWords - 2: api.OK, mostWords - 1: api.OK, mostWords: api.ErrBounds} {
		if e := m.Write(1, at, uint64(at+5)); e != want {
			t.Errorf("Write of %d: error %d, not %d", at, e, want)
		}
		if w, e := m.Read(1, at); e != want || e == api.OK && w != uint64(at+5) || e != api.OK && w != 0 {
			t.Errorf("Read of %d: %d, error %d, not %d", at, w, e, want)
		}
	}
	m.Write(0, mostWords-2, 9)
	for _, words := range []int{mostWords + 1, mostWords + 2, 1 << 32, math.MaxInt} {
		for id := range 2 {
			if e := m.Grow(id, words); e != api.ErrLong {
				t.Errorf("Grow(%d, %d): error %d", id, words, e)
			}
		}
	}
	if e := m.Grow(1, mostWords); e != api.OK {
		t.Errorf("Grow of the most words to as many: error %d", e)
	}
	if e := m.Grow(0, mostWords); e != api.OK {
		t.Errorf("Grow to the most words: error %d", e)
	}
	if e := m.Copy(0, mostWords-2, 1, mostWords-2, 2); e != api.OK {
		t.Errorf("Copy: error %d", e)
	}
	if w, e := m.Read(1, mostWords-2); w != 9 || e != api.OK {
		t.Errorf("Read: %d, error %d", w, e)
	}
	if w, e := m.Read(1, mostWords-1); w != 0 || e != api.OK {
		t.Errorf("Read: %d, error %d", w, e)
	}
	if m.Held() != 2*mostWords || m.High() != 2*mostWords {
		t.Errorf("Held %d, High %d", m.Held(), m.High())
	}
}

// Of the errors of Open the first one that applies is returned, though no
// further space may be open.
func TestTheMostSpaces(t *testing.T) {
	m := mem.New()
	for want := range mostSpaces {
		if id, e := m.Open(want % 3); id != want || e != api.OK {
			t.Fatalf("Open: %d, error %d, not %d", id, e, want)
		}
	}
	const held = mostSpaces - 1 // each three of them have 3 words, and the last one none
	full := func(words int, want api.Errno) {
		t.Helper()
		if id, e := m.Open(words); id != 0 || e != want {
			t.Errorf("Open(%d): %d, error %d, not %d", words, id, e, want)
		}
		if m.Spaces() != mostSpaces || m.Held() != held || m.High() != held {
			t.Errorf("%d spaces, Held %d, High %d", m.Spaces(), m.Held(), m.High())
		}
	}
	full(0, api.ErrFull)
	full(1, api.ErrFull)
	full(mostWords, api.ErrFull)
	full(mostWords+1, api.ErrLong)
	full(-1, api.ErrArg)
	for _, id := range []int{-1, mostSpaces, mostSpaces + 1} {
		if e := m.Close(id); e != api.ErrSpace {
			t.Errorf("Close(%d): error %d", id, e)
		}
	}
	for _, ids := range [][]int{{mostSpaces - 1}, {0}, {70000, 3, mostSpaces - 1, 69999, 0}} {
		for i, id := range ids {
			m.Write(id, 0, 5)
			if e := m.Close(id); e != api.OK || m.Spaces() != mostSpaces-1-i {
				t.Errorf("Close(%d): error %d, %d spaces", id, e, m.Spaces())
			}
		}
		slices.Sort(ids)
		for _, want := range ids {
			if id, e := m.Open(want % 3); id != want || e != api.OK {
				t.Errorf("Open: %d, error %d, not %d", id, e, want)
			}
			words(t, m, want, make([]uint64, want%3)...)
		}
		full(0, api.ErrFull)
	}
	for id := mostSpaces - 1; id >= 0; id-- {
		if e := m.Close(id); e != api.OK {
			t.Fatalf("Close(%d): error %d", id, e)
		}
	}
	if m.Spaces() != 0 || m.Held() != 0 || m.High() != held {
		t.Errorf("%d spaces, Held %d, High %d", m.Spaces(), m.Held(), m.High())
	}
	for want := range mostSpaces {
		if id, e := m.Open(0); id != want || e != api.OK {
			t.Fatalf("Open: %d, error %d, not %d", id, e, want)
		}
	}
}

// orders returns each order of the numbers below n.
func orders(n int) [][]int {
	if n == 0 {
		return [][]int{nil}
	}
	var out [][]int
	for _, o := range orders(n - 1) {
		for i := range n {
			out = append(out, slices.Insert(slices.Clone(o), i, n-1))
		}
	}
	return out
}

// Whatever the order in which spaces are closed, and how many of them, the
// smallest number that is not in use comes first.
func TestTheSmallestNumber(t *testing.T) {
	for _, order := range orders(6) {
		for n := range 7 {
			p := newPair()
			p.fill(t, 1, 1, 1, 1, 1, 1)
			for _, id := range order[:n] {
				p.close(t, id)
			}
			p.check(t, "Close", order[:n])
			want := append(slices.Sorted(slices.Values(order[:n])), 6, 7)
			for _, w := range want {
				if id, e := p.open(t, 2); id != w || e != api.OK {
					t.Fatalf("closed %v, Open: %d, error %d, not %d", order[:n], id, e, w)
				}
			}
			p.check(t, "Open", order[:n])
		}
	}
}

func TestClose(t *testing.T) {
	p := newPair()
	for _, id := range append(far(), -1, 0, 1) {
		if e := p.close(t, id); e != api.ErrSpace {
			t.Errorf("Close(%d): error %d", id, e)
		}
	}
	p.fill(t, 3, 0, 2)
	for _, c := range []struct {
		id, spaces, held int
		want             api.Errno
	}{
		{3, 3, 5, api.ErrSpace},
		{-1, 3, 5, api.ErrSpace},
		{1, 2, 5, api.OK},
		{1, 2, 5, api.ErrSpace},
		{0, 1, 2, api.OK},
		{0, 1, 2, api.ErrSpace},
		{2, 0, 0, api.OK},
		{2, 0, 0, api.ErrSpace},
		{3, 0, 0, api.ErrSpace},
	} {
		if e := p.close(t, c.id); e != c.want || p.got.Spaces() != c.spaces || p.got.Held() != c.held || p.got.High() != 5 {
			t.Errorf("Close(%d): error %d, %d spaces, Held %d, High %d", c.id, e, p.got.Spaces(), p.got.Held(), p.got.High())
		}
		p.check(t, "Close", c.id)
	}
}

// Each call on a space that is not open, whatever its other arguments are.
func TestSpacesThatAreNotOpen(t *testing.T) {
	p := newPair()
	p.fill(t, 4, 4, 4)
	p.close(t, 1)
	before := tell(p.got)
	for _, id := range append(far(), -2, -1, 1, 3, 4, mostSpaces-1, mostSpaces, mostSpaces+1) {
		if n, e := p.got.Size(id); n != 0 || e != api.ErrSpace {
			t.Errorf("Size(%d): %d, error %d", id, n, e)
		}
		if l, e := p.got.Look(id); len(l) != 0 || e != api.ErrSpace {
			t.Errorf("Look(%d): %v, error %d", id, l, e)
		}
		if e := p.got.Close(id); e != api.ErrSpace {
			t.Errorf("Close(%d): error %d", id, e)
		}
		for _, n := range append(far(), -1, 0, 1, 4, 5) {
			w, e := p.got.Read(id, n)
			errs := []api.Errno{e, p.got.Write(id, n, 5), p.got.Grow(id, n), p.got.Zero(id, n, 1), p.got.Zero(id, 0, n), p.got.Zero(id, n, n), p.got.Copy(id, n, 0, 0, 1), p.got.Copy(id, 0, 0, n, n), p.got.Copy(0, 0, id, n, 1), p.got.Copy(0, n, id, 0, n), p.got.Copy(id, n, id, n, 0)}
			if w != 0 || slices.ContainsFunc(errs, func(e api.Errno) bool { return e != api.ErrSpace }) {
				t.Errorf("space %d, number %d: %d, errors %v", id, n, w, errs)
			}
		}
	}
	if got := tell(p.got); got != before {
		t.Errorf("failed calls changed %s to %s", before, got)
	}
}

func TestGrow(t *testing.T) {
	for size := range 5 {
		for _, n := range append(far(), -2, -1, 0, 1, 2, 3, 4, 5, 6, 20) {
			p := newPair()
			p.fill(t, size, 3)
			e := p.grow(t, 0, n)
			want := api.OK
			if n < size {
				want = api.ErrArg
			} else if n > mostWords {
				want = api.ErrLong
			}
			if e != want {
				t.Errorf("%d words, Grow to %d: error %d, not %d", size, n, e, want)
			}
			p.check(t, "Grow", size, n)
		}
	}
	m := mem.New()
	m.Open(2)
	m.Write(0, 0, 8)
	m.Write(0, 1, 9)
	for _, n := range []int{2, 3, 3, 6} {
		if e := m.Grow(0, n); e != api.OK || m.Held() != n {
			t.Errorf("Grow(0, %d): error %d, Held %d", n, e, m.Held())
		}
		words(t, m, 0, append([]uint64{8, 9}, make([]uint64, n-2)...)...)
	}
	steps(t, m, 0, 2)
}

// P8.2

// Each range of a space, and those about it and far from it.
func TestAllRanges(t *testing.T) {
	for size := range 5 {
		for _, at := range append(far(), -3, -2, -1, 0, 1, 2, 3, 4, 5, 6) {
			p := newPair()
			p.fill(t, 2, size, 2)
			p.read(t, 1, at)
			p.check(t, "Read", size, at)
			p.write(t, 1, at, math.MaxUint64)
			p.check(t, "Write", size, at)
			for _, n := range append(far(), -3, -2, -1, 0, 1, 2, 3, 4, 5, 6) {
				p := newPair()
				p.fill(t, 2, size, 2)
				p.zero(t, 1, at, n)
				p.check(t, "Zero", size, at, n)
			}
		}
	}
}

func TestEmptyRanges(t *testing.T) {
	m := mem.New()
	m.Open(3)
	m.Open(0)
	for at, want := range map[int]api.Errno{-1: api.ErrBounds, 0: api.OK, 1: api.OK, 2: api.OK, 3: api.OK, 4: api.ErrBounds, math.MinInt: api.ErrBounds, math.MaxInt: api.ErrBounds} {
		if e := m.Zero(0, at, 0); e != want {
			t.Errorf("Zero(0, %d, 0): error %d, not %d", at, e, want)
		}
		if e := m.Copy(0, at, 1, 0, 0); e != want {
			t.Errorf("Copy(0, %d, 1, 0, 0): error %d, not %d", at, e, want)
		}
		if e := m.Copy(1, 0, 0, at, 0); e != want {
			t.Errorf("Copy(1, 0, 0, %d, 0): error %d, not %d", at, e, want)
		}
	}
	for at, want := range map[int]api.Errno{-1: api.ErrBounds, 0: api.OK, 1: api.ErrBounds} {
		if e := m.Zero(1, at, 0); e != want {
			t.Errorf("Zero(1, %d, 0): error %d, not %d", at, e, want)
		}
	}
	for n, want := range map[int]api.Errno{-1: api.ErrBounds, 0: api.OK, 1: api.ErrBounds} {
		if e := m.Copy(1, 0, 1, 0, n); e != want {
			t.Errorf("Copy(1, 0, 1, 0, %d): error %d, not %d", n, e, want)
		}
	}
	steps(t, m, 0, 0)
}

// Each pair of ranges, within one space and between two, that overlap or not.
func TestAllCopies(t *testing.T) {
	for from := range 2 {
		for to := range 2 {
			for at := -1; at <= 6; at++ {
				for dest := -1; dest <= 6; dest++ {
					for n := -1; n <= 6; n++ {
						p := newPair()
						p.fill(t, 5, 4)
						p.copy(t, from, at, to, dest, n)
						p.check(t, "Copy", from, at, to, dest, n)
					}
				}
			}
		}
	}
}

func TestCopiesOfFarRanges(t *testing.T) {
	p := newPair()
	p.fill(t, 5, 3)
	numbers := append(far(), -1, 0, 1, 2, 3, 4)
	for _, at := range numbers {
		for _, dest := range numbers {
			for _, n := range append(numbers, 5, 6) {
				p.copy(t, 0, at, 1, dest, n)
				p.copy(t, 1, at, 0, dest, n)
				p.copy(t, 1, at, 1, dest, n)
			}
			p.check(t, "Copy", at, dest)
		}
	}
}

func TestKnownCopies(t *testing.T) {
	for _, c := range []struct {
		from, at, to, dest, n int
		e                     api.Errno
		a, b                  []uint64
	}{
		{0, 0, 1, 0, 2, api.OK, []uint64{1, 2, 3, 4, 5}, []uint64{1, 2, 8}},
		{0, 2, 1, 0, 3, api.OK, []uint64{1, 2, 3, 4, 5}, []uint64{3, 4, 5}},
		{1, 1, 0, 3, 2, api.OK, []uint64{1, 2, 3, 7, 8}, []uint64{6, 7, 8}},
		{0, 0, 0, 1, 4, api.OK, []uint64{1, 1, 2, 3, 4}, []uint64{6, 7, 8}},
		{0, 1, 0, 0, 4, api.OK, []uint64{2, 3, 4, 5, 5}, []uint64{6, 7, 8}},
		{0, 0, 0, 2, 3, api.OK, []uint64{1, 2, 1, 2, 3}, []uint64{6, 7, 8}},
		{0, 0, 0, 0, 5, api.OK, []uint64{1, 2, 3, 4, 5}, []uint64{6, 7, 8}},
		{0, 0, 1, 0, 4, api.ErrBounds, []uint64{1, 2, 3, 4, 5}, []uint64{6, 7, 8}},
		{1, 0, 0, 0, 4, api.ErrBounds, []uint64{1, 2, 3, 4, 5}, []uint64{6, 7, 8}},
		{0, 3, 1, 0, 3, api.ErrBounds, []uint64{1, 2, 3, 4, 5}, []uint64{6, 7, 8}},
		{0, 0, 1, 1, 3, api.ErrBounds, []uint64{1, 2, 3, 4, 5}, []uint64{6, 7, 8}},
		{0, 0, 1, 0, -1, api.ErrBounds, []uint64{1, 2, 3, 4, 5}, []uint64{6, 7, 8}},
		{0, 9, 2, 0, 1, api.ErrSpace, []uint64{1, 2, 3, 4, 5}, []uint64{6, 7, 8}},
		{2, 0, 1, 9, 1, api.ErrSpace, []uint64{1, 2, 3, 4, 5}, []uint64{6, 7, 8}},
	} {
		m := mem.New()
		m.Open(5)
		m.Open(3)
		for at := range 5 {
			m.Write(0, at, uint64(at+1))
		}
		for at := range 3 {
			m.Write(1, at, uint64(at+6))
		}
		if e := m.Copy(c.from, c.at, c.to, c.dest, c.n); e != c.e {
			t.Errorf("Copy(%d, %d, %d, %d, %d): error %d, not %d", c.from, c.at, c.to, c.dest, c.n, e, c.e)
		}
		words(t, m, 0, c.a...)
		words(t, m, 1, c.b...)
		if c.e != api.OK {
			c.n = 0
		}
		steps(t, m, uint64(c.n), uint64(8+c.n))
	}
}

// A word is stored with all its bits.
func TestAllBitsOfAWord(t *testing.T) {
	p := newPair()
	p.fill(t, 3)
	for bit := range 64 {
		for _, w := range []uint64{1 << bit, ^uint64(1 << bit), 1<<bit - 1, ^uint64(0) << bit} {
			p.write(t, 0, bit%3, w)
			if got, e := p.read(t, 0, bit%3); got != w || e != api.OK {
				t.Fatalf("Read: %x, error %d, not %x", got, e, w)
			}
			p.copy(t, 0, bit%3, 0, (bit+1)%3, 1)
			p.check(t, "Copy", w)
		}
	}
}

func TestLook(t *testing.T) {
	p := newPair()
	p.fill(t, 3, 0, 2)
	words(t, p.got, 0, 101, 102, 103)
	words(t, p.got, 1)
	words(t, p.got, 2, 301, 302)
	steps(t, p.got, 0, 5)
}

// P8.3

// What each call is counted as; a call that fails is not counted.
func TestSteps(t *testing.T) {
	for _, c := range []struct {
		name          string
		reads, writes uint64
		held          int // how many words more are in use
		call          func(*mem.Mem) api.Errno
		want          api.Errno
	}{
		{"Read", 1, 0, 0, func(m *mem.Mem) api.Errno { _, e := m.Read(0, 2); return e }, api.OK},
		{"Read behind the last", 0, 0, 0, func(m *mem.Mem) api.Errno { _, e := m.Read(0, 9); return e }, api.ErrBounds},
		{"Read of no space", 0, 0, 0, func(m *mem.Mem) api.Errno { _, e := m.Read(2, 0); return e }, api.ErrSpace},
		{"Write", 0, 1, 0, func(m *mem.Mem) api.Errno { return m.Write(1, 3, 5) }, api.OK},
		{"Write of what is there", 0, 1, 0, func(m *mem.Mem) api.Errno { return m.Write(1, 3, 204) }, api.OK},
		{"Write behind the last", 0, 0, 0, func(m *mem.Mem) api.Errno { return m.Write(1, 4, 5) }, api.ErrBounds},
		{"Write in no space", 0, 0, 0, func(m *mem.Mem) api.Errno { return m.Write(-1, 0, 5) }, api.ErrSpace},
		{"Zero", 0, 4, 0, func(m *mem.Mem) api.Errno { return m.Zero(0, 2, 4) }, api.OK},
		{"Zero of all", 0, 9, 0, func(m *mem.Mem) api.Errno { return m.Zero(0, 0, 9) }, api.OK},
		{"Zero of none", 0, 0, 0, func(m *mem.Mem) api.Errno { return m.Zero(0, 9, 0) }, api.OK},
		{"Zero of too many", 0, 0, 0, func(m *mem.Mem) api.Errno { return m.Zero(0, 6, 4) }, api.ErrBounds},
		{"Zero of fewer than none", 0, 0, 0, func(m *mem.Mem) api.Errno { return m.Zero(0, 6, -4) }, api.ErrBounds},
		{"Zero in no space", 0, 0, 0, func(m *mem.Mem) api.Errno { return m.Zero(2, 0, 0) }, api.ErrSpace},
		{"Copy", 3, 3, 0, func(m *mem.Mem) api.Errno { return m.Copy(0, 5, 1, 1, 3) }, api.OK},
		{"Copy within", 7, 7, 0, func(m *mem.Mem) api.Errno { return m.Copy(0, 0, 0, 1, 7) }, api.OK},
		{"Copy to where it is", 2, 2, 0, func(m *mem.Mem) api.Errno { return m.Copy(0, 4, 0, 4, 2) }, api.OK},
		{"Copy of none", 0, 0, 0, func(m *mem.Mem) api.Errno { return m.Copy(0, 9, 1, 4, 0) }, api.OK},
		{"Copy from too many", 0, 0, 0, func(m *mem.Mem) api.Errno { return m.Copy(0, 7, 1, 0, 3) }, api.ErrBounds},
		{"Copy to too many", 0, 0, 0, func(m *mem.Mem) api.Errno { return m.Copy(0, 0, 1, 2, 3) }, api.ErrBounds},
		{"Copy of fewer than none", 0, 0, 0, func(m *mem.Mem) api.Errno { return m.Copy(0, 3, 1, 2, -1) }, api.ErrBounds},
		{"Copy from no space", 0, 0, 0, func(m *mem.Mem) api.Errno { return m.Copy(2, 0, 1, 0, 1) }, api.ErrSpace},
		{"Copy to no space", 0, 0, 0, func(m *mem.Mem) api.Errno { return m.Copy(1, 0, 2, 0, 1) }, api.ErrSpace},
		{"Look", 0, 0, 0, func(m *mem.Mem) api.Errno { _, e := m.Look(0); return e }, api.OK},
		{"Look at no space", 0, 0, 0, func(m *mem.Mem) api.Errno { _, e := m.Look(2); return e }, api.ErrSpace},
		{"Size", 0, 0, 0, func(m *mem.Mem) api.Errno { _, e := m.Size(0); return e }, api.OK},
		{"Spaces", 0, 0, 0, func(m *mem.Mem) api.Errno { m.Spaces(); return api.OK }, api.OK},
		{"Open", 0, 0, 6, func(m *mem.Mem) api.Errno { _, e := m.Open(6); return e }, api.OK},
		{"Open of no word", 0, 0, 0, func(m *mem.Mem) api.Errno { _, e := m.Open(0); return e }, api.OK},
		{"Open of fewer than none", 0, 0, 0, func(m *mem.Mem) api.Errno { _, e := m.Open(-6); return e }, api.ErrArg},
		{"Open of too many", 0, 0, 0, func(m *mem.Mem) api.Errno { _, e := m.Open(mostWords + 1); return e }, api.ErrLong},
		{"Close", 0, 0, -9, func(m *mem.Mem) api.Errno { return m.Close(0) }, api.OK},
		{"Close of no space", 0, 0, 0, func(m *mem.Mem) api.Errno { return m.Close(2) }, api.ErrSpace},
		{"Grow", 0, 0, 3, func(m *mem.Mem) api.Errno { return m.Grow(1, 7) }, api.OK},
		{"Grow to as many", 0, 0, 0, func(m *mem.Mem) api.Errno { return m.Grow(1, 4) }, api.OK},
		{"Grow to fewer", 0, 0, 0, func(m *mem.Mem) api.Errno { return m.Grow(1, 3) }, api.ErrArg},
		{"Grow to too many", 0, 0, 0, func(m *mem.Mem) api.Errno { return m.Grow(1, mostWords+1) }, api.ErrLong},
		{"Grow of no space", 0, 0, 0, func(m *mem.Mem) api.Errno { return m.Grow(2, 3) }, api.ErrSpace},
	} {
		p := newPair()
		p.fill(t, 9, 4)
		if e := c.call(p.got); e != c.want {
			t.Errorf("%s: error %d, not %d", c.name, e, c.want)
		}
		if r, w := p.got.Of(meter.Reads), p.got.Of(meter.Writes); r != (api.Wide{Lo: c.reads}) || w != (api.Wide{Lo: 13 + c.writes}) {
			t.Errorf("%s: %v reads, %v writes, not %d, 13 + %d", c.name, r, w, c.reads, c.writes)
		}
		if held, high := 13+c.held, max(13, 13+c.held); p.got.Held() != held || p.got.High() != high {
			t.Errorf("%s: Held %d, High %d, not %d, %d", c.name, p.got.Held(), p.got.High(), held, high)
		}
	}
}

// The promoted methods are those of the one meter that counts the calls.
func TestTheMeterIsPromoted(t *testing.T) {
	m := mem.New()
	m.Open(4)
	m.Write(0, 1, 5)
	start := m.Steps()
	m.Copy(0, 0, 0, 1, 3)
	m.Read(0, 0)
	if got := m.Since(start); got != (api.Wide{Lo: 7}) {
		t.Errorf("Since: %v", got)
	}
	if m.Meter.Since(start) != m.Since(start) || m.Meter.Of(meter.Writes) != m.Of(meter.Writes) || m.Meter.Held() != 4 || m.Meter.High() != 4 {
		t.Errorf("the embedded meter tells otherwise")
	}
	m.Step(meter.Reads, 10)
	steps(t, m, 14, 4)
	if m.Of(2) != (api.Wide{}) {
		t.Errorf("Of(2): %v", m.Of(2))
	}
}

// P8.4, and P8.1 to P8.3 over many calls

func TestManyCalls(t *testing.T) {
	for seed := range noise(25) {
		p := newPair()
		seen := map[string]map[api.Errno]int{"": {}, "Open": {}, "Close": {}, "Grow": {}, "Read": {}, "Write": {}, "Zero": {}, "Copy": {}}
		p.run(t, seed, 2000, func(call string, e api.Errno) {
			seen[call][e]++
			p.check(t, call)
		})
		for call, want := range map[string][]api.Errno{
			"Open":  {api.OK, api.ErrArg},
			"Close": {api.OK, api.ErrSpace},
			"Grow":  {api.OK, api.ErrSpace, api.ErrArg},
			"Read":  {api.OK, api.ErrSpace, api.ErrBounds},
			"Write": {api.OK, api.ErrSpace, api.ErrBounds},
			"Zero":  {api.OK, api.ErrSpace, api.ErrBounds},
			"Copy":  {api.OK, api.ErrSpace, api.ErrBounds},
		} {
			for _, e := range want {
				if seen[call][e] < 3 {
					t.Errorf("seed %d: %s gave error %d %d times only", seed, call, e, seen[call][e])
				}
			}
		}
	}
}

// Words are read back however often their space grows, and so are those of the
// spaces beside it.
func TestWordsAreKeptWhenSpacesGrow(t *testing.T) {
	for _, add := range []int{1, 2, 7, 100} {
		m := mem.New()
		for range 3 {
			m.Open(1)
		}
		sizes := []int{1, 1, 1}
		word := func(id, at int) uint64 { return uint64(id+1)<<40 | uint64(at)*2 + 1 }
		for id := range 3 {
			m.Write(id, 0, word(id, 0))
		}
		for i := range 600 {
			id := i % 3
			size := sizes[id]
			if e := m.Grow(id, size+add); e != api.OK {
				t.Fatalf("Grow: error %d", e)
			}
			for at := range size {
				if w, e := m.Read(id, at); w != word(id, at) || e != api.OK {
					t.Fatalf("space %d of %d words, word %d: %x, error %d, not %x", id, size+add, at, w, e, word(id, at))
				}
			}
			for at := size; at < size+add; at++ {
				if w, e := m.Read(id, at); w != 0 || e != api.OK {
					t.Fatalf("space %d of %d words, new word %d: %x, error %d", id, size+add, at, w, e)
				}
				m.Write(id, at, word(id, at))
			}
			sizes[id] += add
		}
		if want := 3 + 600*add; m.Held() != want || m.High() != want {
			t.Errorf("Held %d, High %d, not %d", m.Held(), m.High(), want)
		}
	}
}

func TestASpaceGrowsByOneToTheMost(t *testing.T) {
	m := mem.New()
	m.Open(0)
	for words := 1; words <= mostWords; words++ {
		if e := m.Grow(0, words); e != api.OK {
			t.Fatalf("Grow to %d: error %d", words, e)
		}
		m.Write(0, words-1, uint64(words))
	}
	l, e := m.Look(0)
	if e != api.OK || len(l) != mostWords {
		t.Fatalf("Look: %d words, error %d", len(l), e)
	}
	for at, w := range l {
		if w != uint64(at+1) {
			t.Fatalf("word %d: %d", at, w)
		}
	}
}

// Nothing of a closed space is seen again in one that is opened or that grows
// later on.
func TestClosedSpacesLeaveNothing(t *testing.T) {
	for _, size := range []int{1, 8, 100, 5000} {
		p := newPair()
		for range 20 {
			id, _ := p.open(t, size)
			for at := range size {
				p.write(t, id, at, math.MaxUint64)
			}
			p.close(t, id)
			again, _ := p.open(t, size/2)
			if again != id {
				t.Fatalf("Open: %d, not %d", again, id)
			}
			p.check(t, "Open", size/2)
			p.grow(t, id, size)
			p.check(t, "Grow", size)
			p.grow(t, id, 2*size)
			p.check(t, "Grow", 2*size)
			p.close(t, id)
		}
	}
}

// P1

// The arguments of each call take all telling values, also together.
func TestCallsEndForAllArguments(t *testing.T) {
	numbers := append(far(), -1, 0, 1, 2, 3)
	p := newPair()
	p.fill(t, 3, 2, 1)
	p.close(t, 1)
	for _, a := range numbers {
		if a < 0 || a > mostWords {
			p.open(t, a)
		}
		p.close(t, max(a, 3))
		for _, b := range numbers {
			p.read(t, a, b)
			p.write(t, a, b, 7)
			if b < 100 || b > mostWords {
				p.grow(t, a, b)
			}
			for _, c := range numbers {
				p.zero(t, a, b, c)
				p.copy(t, a, b, b, a, c)
				p.copy(t, a, b, c, b, a)
				p.copy(t, b, c, a, c, b)
			}
		}
	}
	p.check(t, "all")
}

// P2 (rules 3 and 4)

func TestFailedCallsHaveNoEffect(t *testing.T) {
	for seed := range noise(10) {
		p := newPair()
		before := tell(p.got)
		failed := 0
		p.run(t, 200+seed, 1000, func(call string, e api.Errno) {
			now := tell(p.got)
			if e != api.OK {
				failed++
				if now != before {
					t.Fatalf("%s, error %d, changed %s to %s", call, e, before, now)
				}
			}
			before = now
		})
		if failed < 100 {
			t.Errorf("%d calls failed only", failed)
		}
	}
}

// What Look returns is new memory: it and the space do not change each other.
func TestLookIsACopy(t *testing.T) {
	p := newPair()
	p.fill(t, 3, 2)
	first, _ := p.got.Look(0)
	second, _ := p.got.Look(0)
	first[1] = 7
	_ = append(first[:2], 8, 9)
	if !slices.Equal(second, []uint64{101, 102, 103}) {
		t.Errorf("two results share memory: %v", second)
	}
	p.check(t, "Look")
	p.write(t, 0, 0, 55)
	p.zero(t, 0, 2, 1)
	p.copy(t, 1, 0, 0, 1, 1)
	if !slices.Equal(second, []uint64{101, 102, 103}) {
		t.Errorf("a later call changed %v", second)
	}
	p.grow(t, 0, 4)
	grown, _ := p.got.Look(0)
	_ = append(grown, 1, 2, 3)
	p.grow(t, 0, 6)
	p.check(t, "Grow")
	p.close(t, 0)
	p.open(t, 3)
	p.write(t, 0, 0, 1)
	if !slices.Equal(second, []uint64{101, 102, 103}) || !slices.Equal(grown, []uint64{55, 201, 0, 0}) {
		t.Errorf("a later call changed %v, %v", second, grown)
	}
}

// Whatever is asked of a Mem, it tells the same again.
func TestAskingChangesNothing(t *testing.T) {
	p := newPair()
	p.run(t, 300, 500, func(string, api.Errno) {
		first := tell(p.got)
		if again := tell(p.got); again != first {
			t.Fatalf("%s, and then %s", first, again)
		}
	})
}

// Each Mem has spaces and counters of its own, and the same calls on two of
// them have the same results.
func TestMemsAreApart(t *testing.T) {
	a, b, c := newPair(), newPair(), newPair()
	var of, again []string
	a.run(t, 400, 500, func(string, api.Errno) { of = append(of, tell(a.got)) })
	b.check(t, "calls on another Mem")
	last := tell(a.got)
	c.run(t, 400, 500, func(string, api.Errno) { again = append(again, tell(c.got)) })
	if !slices.Equal(of, again) {
		t.Errorf("the same calls on two Mems differ")
	}
	b.check(t, "calls on another Mem")
	if tell(a.got) != last || tell(mem.New()) != newModel().tell() {
		t.Errorf("calls on another Mem: %s", tell(a.got))
	}
}

// A Mem shows the chapter's methods, those of its meter, and nothing else.
func TestNothingElseIsExported(t *testing.T) {
	of := reflect.TypeFor[*mem.Mem]()
	var got []string
	for i := range of.NumMethod() {
		got = append(got, of.Method(i).Name)
	}
	want := []string{"Spaces", "Open", "Close", "Size", "Grow", "Read", "Write", "Zero", "Copy", "Look"}
	meters := reflect.TypeFor[*meter.Meter]()
	for i := range meters.NumMethod() {
		want = append(want, meters.Method(i).Name)
	}
	slices.Sort(want)
	if !slices.Equal(got, want) {
		t.Errorf("methods: %v", got)
	}
	for i := range of.Elem().NumField() {
		f := of.Elem().Field(i)
		if f.Anonymous != (f.Type == meters) || f.IsExported() != f.Anonymous {
			t.Errorf("field %s: embedded %v, exported %v", f.Name, f.Anonymous, f.IsExported())
		}
	}
}
