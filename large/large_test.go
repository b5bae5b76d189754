package large_test

import (
	"fmt"
	"iter"
	"math"
	"reflect"
	"slices"
	"testing"

	"haymow/api"
	"haymow/chain"
	"haymow/large"
	"haymow/mem"
	"haymow/pool"
)

// The calls have these signatures exactly.
var (
	_ func(*mem.Mem) (*large.Large, api.Errno)         = large.New
	_ func(*large.Large) int                           = (*large.Large).Count
	_ func(*large.Large) int                           = (*large.Large).Words
	_ func(*large.Large, int) (int, api.Errno)         = (*large.Large).Add
	_ func(*large.Large, int) (int, api.Errno)         = (*large.Large).Size
	_ func(*large.Large, int, int) (uint64, api.Errno) = (*large.Large).Read
	_ func(*large.Large, int, int, uint64) api.Errno   = (*large.Large).Write
	_ func(*large.Large)                               = (*large.Large).Begin
	_ func(*large.Large, int) (bool, api.Errno)        = (*large.Large).Marked
	_ func(*large.Large, int) (bool, api.Errno)        = (*large.Large).Mark
	_ func(*large.Large) (int, bool)                   = (*large.Large).Grey
	_ func(*large.Large) (count, words int)            = (*large.Large).Sweep
	_ func(*large.Large) iter.Seq[int]                 = (*large.Large).All
)

// The bounds of a Mem.
const (
	mostWords  = 4194304
	mostSpaces = 262144
)

// The example of the chapter.
func TestExample(t *testing.T) {
	l, e := large.New(mem.New())
	if e != api.OK {
		t.Fatalf("New: error %d", e)
	}
	for i, words := range []int{100, 50} {
		if id, e := l.Add(words); id != i+1 || e != api.OK {
			t.Errorf("Add(%d): %d, error %d", words, id, e)
		}
	}
	l.Begin()
	if was, e := l.Mark(2); !was || e != api.OK {
		t.Errorf("Mark(2): %v, error %d", was, e)
	}
	if count, words := l.Sweep(); count != 1 || words != 100 {
		t.Errorf("Sweep: %d, %d", count, words)
	}
	if got := all(l); !slices.Equal(got, []int{2}) {
		t.Errorf("All: %v", got)
	}
}

// P15.1

func TestNew(t *testing.T) {
	m := mem.New()
	for i := range 5 {
		p := newPair(t, m)
		l := p.got
		if m.Spaces() != i+1 || m.Held() != 0 || m.Steps() != (api.Wide{}) {
			t.Errorf("New: %d spaces, %d words in use, steps %v", m.Spaces(), m.Held(), m.Steps())
		}
		if l.Count() != 0 || l.Words() != 0 || len(all(l)) != 0 {
			t.Errorf("New: Count %d, Words %d, All %v", l.Count(), l.Words(), all(l))
		}
		p.greys(t, "New")
		if count, words := l.Sweep(); count != 0 || words != 0 {
			t.Errorf("Sweep: %d, %d", count, words)
		}
		p.check(t, "New")
		if m.Steps() != (api.Wide{}) {
			t.Errorf("steps %v", m.Steps())
		}
	}
}

func TestNewOfNoMem(t *testing.T) {
	if l, e := large.New(nil); l != nil || e != api.ErrArg {
		t.Errorf("New(nil): %v, error %d", l, e)
	}
}

func TestNewWithoutASpace(t *testing.T) {
	m := mem.New()
	for m.Spaces() < mostSpaces {
		m.Open(0)
	}
	before := counted(m)
	if l, e := large.New(m); l != nil || e != api.ErrFull || counted(m) != before {
		t.Errorf("New: %v, error %d, %s, not %s", l, e, counted(m), before)
	}
	m.Close(4711)
	p := newPair(t, m)
	if id, e := p.add(t, 1); id != 0 || e != api.ErrFull {
		t.Errorf("Add: %d, error %d", id, e)
	}
	p.check(t, "New")
}

func TestAdd(t *testing.T) {
	p := newPair(t, mem.New())
	total := 0
	for i := range 40 {
		words := 1 + i*i%23
		total += words
		if id, e := p.add(t, words); id != i+1 || e != api.OK {
			t.Fatalf("Add(%d): %d, error %d", words, id, e)
		}
		if p.got.Count() != i+1 || p.got.Words() != total {
			t.Errorf("Add(%d): Count %d, Words %d", words, p.got.Count(), p.got.Words())
		}
		p.check(t, "Add", words)
		p.fill(t, i+1)
	}
	p.check(t, "Write")
	p.drain(t)
}

// Words that are no number of words are refused, in the order of the errors,
// and take no number.
func TestAddOfNoWords(t *testing.T) {
	p := newPair(t, mem.New())
	refuse := func() {
		t.Helper()
		before := counted(p.m)
		for _, words := range append(far(), -1000, -2, -1, 0, mostWords+1, mostWords+2, 2*mostWords) {
			want := api.ErrLong
			if words < 1 {
				want = api.ErrArg
			}
			if id, e := p.add(t, words); id != 0 || e != want {
				t.Errorf("Add(%d): %d, error %d", words, id, e)
			}
		}
		if counted(p.m) != before {
			t.Errorf("Add: %s, not %s", counted(p.m), before)
		}
		p.check(t, "Add")
	}
	refuse()
	for i := range 9 {
		if id, e := p.add(t, 3); id != i+1 || e != api.OK {
			t.Errorf("Add: %d, error %d", id, e)
		}
		refuse()
	}
	for p.m.Spaces() < mostSpaces {
		p.m.Open(0)
		p.otherSpaces++
	}
	refuse()
}

// Where the Mem has no room for a space, nothing is added, and the entries do
// not become more; where it has, the number is the one that is due.
func TestAddWithoutASpace(t *testing.T) {
	for _, n := range []int{0, 1, 7, 8, 9, 16} {
		p := newPair(t, mem.New())
		for range n {
			p.add(t, 2)
		}
		p.begin(t)
		fillers := []int{}
		for p.m.Spaces() < mostSpaces {
			id, _ := p.m.Open(0)
			fillers = append(fillers, id)
		}
		p.otherSpaces += len(fillers)
		before := counted(p.m)
		for _, words := range []int{1, 2, mostWords} {
			if id, e := p.add(t, words); id != 0 || e != api.ErrFull {
				t.Errorf("%d objects: Add(%d): %d, error %d", n, words, id, e)
			}
		}
		if counted(p.m) != before {
			t.Errorf("%d objects: Add: %s, not %s", n, counted(p.m), before)
		}
		p.check(t, "Add")
		p.m.Close(fillers[len(fillers)/2])
		p.otherSpaces--
		if id, e := p.add(t, 3); id != n+1 || e != api.OK {
			t.Errorf("%d objects: Add: %d, error %d", n, id, e)
		}
		p.check(t, "Add")
		if n > 0 {
			p.sweep(t)
			if id, e := p.add(t, 3); id != n || e != api.OK {
				t.Errorf("%d objects: Add: %d, error %d", n, id, e)
			}
			p.check(t, "Add")
		}
	}
}

// ErrFull as pool.Take, whose space cannot grow here as it is closed: the space
// of the object does not stay open.
func TestAddWithoutANumber(t *testing.T) {
	for _, n := range []int{0, 8, 16} {
		m := mem.New()
		m.Open(0)
		first, _ := m.Open(0) // so that objects do not get the space of the pool
		l, _ := large.New(m)
		for range n {
			l.Add(2)
		}
		m.Close(first)
		m.Close(first + 1)
		held, spaces := m.Held(), m.Spaces()
		for _, words := range []int{1, 5, mostWords} {
			if id, e := l.Add(words); id != 0 || e != api.ErrFull {
				t.Errorf("Add(%d): %d, error %d", words, id, e)
			}
		}
		if m.Held() != held || m.Spaces() != spaces || l.Count() != n || l.Words() != 2*n {
			t.Errorf("%d words in use, %d spaces, Count %d, Words %d", m.Held(), m.Spaces(), l.Count(), l.Words())
		}
	}
}

// As many objects as a Mem has spaces beside that of the pool.
func TestAddOfMostObjects(t *testing.T) {
	m := mem.New()
	l, _ := large.New(m)
	for i := range mostSpaces - 1 {
		if id, e := l.Add(1); id != i+1 || e != api.OK {
			t.Fatalf("Add: %d, error %d", id, e)
		}
	}
	for range 2 {
		if id, e := l.Add(1); id != 0 || e != api.ErrFull {
			t.Errorf("Add: %d, error %d", id, e)
		}
	}
	for _, id := range []int{1, 2, 65536, 131072, mostSpaces - 1} {
		if e := l.Write(id, 0, uint64(id)); e != api.OK {
			t.Errorf("Write(%d): error %d", id, e)
		}
	}
	l.Begin()
	for _, id := range []int{65536, mostSpaces - 1, 1} {
		if was, e := l.Mark(id); !was || e != api.OK {
			t.Errorf("Mark(%d): %v, error %d", id, was, e)
		}
	}
	if count, words := l.Sweep(); count != mostSpaces-4 || words != mostSpaces-4 {
		t.Errorf("Sweep: %d, %d", count, words)
	}
	if got := all(l); !slices.Equal(got, []int{65536, mostSpaces - 1, 1}) {
		t.Errorf("All: %v", got)
	}
	for _, id := range all(l) {
		if w, e := l.Read(id, 0); w != uint64(id) || e != api.OK {
			t.Errorf("Read(%d): %d, error %d", id, w, e)
		}
	}
	if id, e := l.Add(1); id != mostSpaces-2 || e != api.OK {
		t.Errorf("Add: %d, error %d", id, e)
	}
}

// The greatest objects that there are.
func TestGreatestObjects(t *testing.T) {
	p := newPair(t, mem.New())
	l := p.got
	for i, words := range []int{mostWords, mostWords - 1, 65536, 65537, mostWords} {
		if id, e := l.Add(words); id != i+1 || e != api.OK {
			t.Fatalf("Add(%d): %d, error %d", words, id, e)
		}
		if n, e := l.Size(i + 1); n != words || e != api.OK {
			t.Errorf("Size: %d, error %d", n, e)
		}
		if e := l.Write(i+1, words-1, uint64(i+5)); e != api.OK {
			t.Errorf("Write: error %d", e)
		}
		if w, e := l.Read(i+1, words-1); w != uint64(i+5) || e != api.OK {
			t.Errorf("Read: %d, error %d", w, e)
		}
		if w, e := l.Read(i+1, words); w != 0 || e != api.ErrBounds {
			t.Errorf("Read: %d, error %d", w, e)
		}
	}
	if want := 3*mostWords - 1 + 65536 + 65537; l.Words() != want || p.m.Held() != want+48 {
		t.Errorf("Words: %d, %d words in use", l.Words(), p.m.Held())
	}
	l.Begin()
	if count, words := l.Sweep(); count != 5 || words != 3*mostWords-1+65536+65537 || p.m.Held() != 48 {
		t.Errorf("Sweep: %d, %d, %d words in use", count, words, p.m.Held())
	}
}

// Numbers that no object has, or none has any more, are told ahead of all else,
// and nothing is done.
func TestNoObject(t *testing.T) {
	p := newPair(t, mem.New())
	none := func(ids ...int) {
		t.Helper()
		for _, id := range ids {
			if e := p.size(t, id); e != api.ErrNone {
				t.Errorf("Size(%d): error %d", id, e)
			}
			if e := p.marked(t, id); e != api.ErrNone {
				t.Errorf("Marked(%d): error %d", id, e)
			}
			if _, e := p.mark(t, id); e != api.ErrNone {
				t.Errorf("Mark(%d): error %d", id, e)
			}
			for _, at := range []int{math.MinInt, -1, 0, 1, 4, 5, math.MaxInt} {
				if e := p.read(t, id, at); e != api.ErrNone {
					t.Errorf("Read(%d, %d): error %d", id, at, e)
				}
				if e := p.write(t, id, at, 7); e != api.ErrNone {
					t.Errorf("Write(%d, %d): error %d", id, at, e)
				}
			}
		}
		p.check(t, "no object")
	}
	none(append(far(), -9, -2, -1, 0, 1, 2, 8)...)
	p.addAll(t, 3, 2, 4, 1, 1)
	none(append(far(), -9, -5, -2, -1, 0, 6, 7, 8, 9, 256, 257, 65536, 65537)...)
	p.begin(t)
	p.markAll(t, 4, 1)
	p.sweep(t)
	none(append(far(), 2, 3, 5, 6, 0)...)
	p.begin(t)
	p.sweep(t)
	none(append(far(), 1, 2, 3, 4, 5, 6, 0)...)
	p.add(t, 2)
	none(2, 3, 4, 5)
}

// Only the words of an object are read and written.
func TestReadAndWrite(t *testing.T) {
	p := newPair(t, mem.New())
	p.addAll(t, 1, 2, 3, 8, 9)
	for id := 1; id <= 5; id++ {
		size, _ := p.want.size(id)
		for _, at := range append(far(), -10, -9, -3, -2, -1, 0, 1, 2, 3, 4, 7, 8, 9, 10, 256, 257, 65536, 65537) {
			want := api.OK
			if at < 0 || at >= size {
				want = api.ErrBounds
			}
			if e := p.read(t, id, at); e != want {
				t.Errorf("Read(%d, %d): error %d", id, at, e)
			}
			if e := p.write(t, id, at, uint64(at)+99); e != want {
				t.Errorf("Write(%d, %d): error %d", id, at, e)
			}
			p.check(t, "Write", id, at)
		}
	}
}

// Each bit of each word is stored on its own.
func TestBits(t *testing.T) {
	p := newPair(t, mem.New())
	p.addAll(t, 2, 3)
	for id := 1; id <= 2; id++ {
		for at := range id + 1 {
			for bit := range 64 {
				p.write(t, id, at, 1<<bit)
				p.check(t, "Write", id, at, bit)
				p.write(t, id, at, math.MaxUint64-1<<bit)
				p.check(t, "Write", id, at, bit)
			}
		}
	}
}

// An object has words of 0, though its number, and its space, were those of
// others that had been written.
func TestAddedWordsAreZero(t *testing.T) {
	p := newPair(t, mem.New())
	for i := range 12 {
		for range 3 {
			id, _ := p.add(t, 1+(i+2)%5)
			p.check(t, "Add")
			p.fill(t, id)
		}
		p.begin(t)
		p.markAll(t, p.want.objects[i%3].id)
		p.sweep(t)
		p.check(t, "Sweep")
	}
}

// P15.2

// All sequences of a few calls, on two objects that there are from the start
// and others.
func TestAllSequences(t *testing.T) {
	const length = 6
	calls := []func(t *testing.T, p *pair){
		func(t *testing.T, p *pair) { p.add(t, 1) },
		func(t *testing.T, p *pair) { p.begin(t) },
		func(t *testing.T, p *pair) { p.mark(t, 1) },
		func(t *testing.T, p *pair) { p.mark(t, 2) },
		func(t *testing.T, p *pair) { p.grey(t) },
		func(t *testing.T, p *pair) { p.sweep(t) },
	}
	sequences := 1
	for range length {
		sequences *= len(calls)
	}
	for n := range sequences {
		p := newPair(t, mem.New())
		p.add(t, 3)
		p.add(t, 2)
		for rest, i := n, 0; i < length; i++ {
			calls[rest%len(calls)](t, p)
			rest /= len(calls)
		}
		p.check(t, "sequence", n)
		p.drain(t)
		p.begin(t)
		p.check(t, "Begin behind sequence", n)
		p.sweep(t)
		p.add(t, 1)
		p.drain(t)
		p.check(t, "Sweep behind sequence", n)
	}
}

// Begin puts the marked objects behind the others, in their order.
func TestBegin(t *testing.T) {
	p := newPair(t, mem.New())
	p.begin(t)
	p.check(t, "Begin of no object")
	p.addAll(t, 1, 2, 3, 4, 5)
	p.order(t, "Add", 1, 2, 3, 4, 5)
	p.begin(t)
	p.order(t, "Begin", 1, 2, 3, 4, 5)
	p.markAll(t, 4, 2)
	p.order(t, "Mark", 4, 2, 1, 3, 5)
	p.begin(t)
	p.order(t, "Begin", 1, 3, 5, 4, 2)
	for id := 1; id <= 5; id++ {
		if is, e := p.got.Marked(id); is || e != api.OK {
			t.Errorf("Marked(%d): %v, error %d", id, is, e)
		}
	}
	p.begin(t)
	p.order(t, "Begin again", 1, 3, 5, 4, 2)
	p.markAll(t, 2, 1, 5, 4, 3)
	p.order(t, "Mark", 2, 1, 5, 4, 3)
	p.begin(t)
	p.order(t, "Begin of all", 2, 1, 5, 4, 3)
	p.check(t, "Begin")
	p.greys(t, "Begin")
}

// An object is unmarked by each Begin, however many there were, and marked
// only by what comes after the last one.
func TestManyBegins(t *testing.T) {
	p := newPair(t, mem.New())
	p.addAll(t, 1, 1, 1)
	p.begin(t)
	for i := range 600 {
		if i%7 == 0 {
			p.markAll(t, 1+i%3)
		}
		p.check(t, "Begin", i)
		p.begin(t)
		p.check(t, "Begin", i)
	}
}

// Objects are marked in each order, and removed ones are those that were not.
func TestMarkInAllOrders(t *testing.T) {
	const n = 4
	seen := 0
	var try func(order []int)
	try = func(order []int) {
		seen++
		p := newPair(t, mem.New())
		p.addAll(t, 3, 1, 4, 2)
		p.begin(t)
		p.markAll(t, order...)
		var rest []int
		for id := 1; id <= n; id++ {
			if was, e := p.got.Mark(id); slices.Contains(order, id) && (was || e != api.OK) {
				t.Errorf("Mark(%d): %v, error %d", id, was, e)
			} else if !slices.Contains(order, id) {
				// It is marked by this call: from here on, behind all others.
				rest = append(rest, id)
			}
		}
		p.order(t, "Mark", append(slices.Clone(order), rest...)...)
		q := newPair(t, mem.New())
		q.addAll(t, 3, 1, 4, 2)
		q.begin(t)
		q.markAll(t, order...)
		q.order(t, "Mark", append(slices.Clone(order), rest...)...)
		q.greys(t, "Mark", order...)
		q.sweep(t)
		q.check(t, "Sweep")
		q.order(t, "Sweep", order...)
		// The number that was returned last is the first to be taken.
		for _, id := range slices.Backward(rest) {
			if got, _ := q.add(t, 1); got != id {
				t.Errorf("Add: %d, not %d", got, id)
			}
		}
		q.check(t, "Add")
		for id := 1; id <= n; id++ {
			if !slices.Contains(order, id) {
				try(append(slices.Clone(order), id))
			}
		}
	}
	try(nil)
	if seen != 1+4+12+24+24 {
		t.Errorf("%d orders", seen)
	}
}

// Grey goes on with what was marked or added since, wherever it is, and begins
// anew after each Begin.
func TestGrey(t *testing.T) {
	p := newPair(t, mem.New())
	p.greys(t, "New")
	p.add(t, 1)
	p.greys(t, "Add", 1)
	p.add(t, 1)
	p.add(t, 1)
	if id, ok := p.grey(t); id != 2 || !ok {
		t.Errorf("Grey: %d, %v", id, ok)
	}
	p.add(t, 1)
	p.greys(t, "Add", 3, 4)
	p.mark(t, 3)
	p.greys(t, "Mark of a marked one")
	p.begin(t)
	p.greys(t, "Begin")
	p.markAll(t, 3)
	if id, ok := p.grey(t); id != 3 || !ok {
		t.Errorf("Grey: %d, %v", id, ok)
	}
	p.markAll(t, 1, 4)
	p.mark(t, 3)
	p.sweep(t)
	p.greys(t, "Sweep", 1, 4)
	p.begin(t)
	p.markAll(t, 4, 3)
	if id, ok := p.grey(t); id != 4 || !ok {
		t.Errorf("Grey: %d, %v", id, ok)
	}
	p.begin(t)
	p.markAll(t, 1)
	p.greys(t, "Begin ahead of the end", 1)
	p.sweep(t)
	p.add(t, 1)
	p.add(t, 1)
	p.greys(t, "numbers that are taken again", 3, 4)
}

// The order in which numbers were returned tells that in which objects were
// removed.
func TestSweepInOrder(t *testing.T) {
	p := newPair(t, mem.New())
	p.addAll(t, 1, 2, 3, 4, 5, 6, 7)
	p.begin(t)
	p.markAll(t, 6, 2, 7)
	p.begin(t)
	p.markAll(t, 4)
	p.order(t, "Mark", 4, 1, 3, 5, 6, 2, 7)
	if count, words := p.got.Sweep(); count != 6 || words != 24 {
		t.Errorf("Sweep: %d, %d", count, words)
	}
	p.order(t, "Sweep", 4)
	for _, want := range []int{7, 2, 6, 5, 3, 1, 8} {
		if id, e := p.got.Add(1); id != want || e != api.OK {
			t.Errorf("Add: %d, error %d, not %d", id, e, want)
		}
	}
	p.order(t, "Add", 4, 7, 2, 6, 5, 3, 1, 8)
	if count, words := p.got.Sweep(); count != 0 || words != 0 || p.got.Count() != 8 || p.got.Words() != 11 {
		t.Errorf("Sweep of none: %d, %d, Count %d, Words %d", count, words, p.got.Count(), p.got.Words())
	}
}

// The numbers are those of a pool of which the same is asked.
func TestNumbersAreThoseOfAPool(t *testing.T) {
	for seed := range noise(10) {
		l, _ := large.New(mem.New())
		x, _ := pool.New(mem.New(), 5)
		for range 60 {
			for range seed.below(9) {
				id, e := l.Add(1 + seed.below(4))
				if want, f := x.Take(); id != want || e != f {
					t.Fatalf("Add: %d, error %d, not %d, error %d", id, e, want, f)
				}
			}
			l.Begin()
			for id := range x.Made() {
				if seed.below(2) == 0 {
					l.Mark(1 + id)
				}
			}
			for id := range l.All() {
				if is, _ := l.Marked(id); !is {
					x.Give(id)
				}
			}
			l.Sweep()
			if l.Count() != x.Count() {
				t.Fatalf("Count: %d, not %d", l.Count(), x.Count())
			}
		}
	}
}

// All may be broken off at each object, and be gone through again.
func TestAll(t *testing.T) {
	for marked := range 5 {
		for others := range 5 {
			p := newPair(t, mem.New())
			for range marked + others {
				p.add(t, 2)
			}
			p.begin(t)
			var want []int
			for id := marked + others; id > others; id-- {
				p.markAll(t, id)
				want = append(want, id)
			}
			for id := 1; id <= others; id++ {
				want = append(want, id)
			}
			seq := p.got.All()
			for stop := 1; stop <= len(want)+1; stop++ {
				var got []int
				p.due(t, 0, len(want)+2, func() {
					for id := range seq {
						got = append(got, id)
						if len(got) == stop {
							break
						}
					}
				}, "All", marked, others, stop)
				if !slices.Equal(got, want[:min(stop, len(want))]) {
					t.Errorf("All: %v of %v", got, want)
				}
			}
			p.check(t, "All")
			pairs := 0
			for range seq {
				for range p.got.All() {
					pairs++
				}
			}
			if pairs != len(want)*len(want) {
				t.Errorf("All within All: %d, not %d", pairs, len(want)*len(want))
			}
		}
	}
}

// P15.3

// The numbers of steps of all calls, on an object between others.
func TestSteps(t *testing.T) {
	m := mem.New()
	var l *large.Large
	add := func() { l.Add(30) }
	all := func() {
		for range l.All() {
		}
	}
	for _, c := range []struct {
		name        string
		least, most int
		call        func()
	}{
		{"New", 0, 0, func() { l, _ = large.New(m) }},
		{"Begin of no object", 0, 2, func() { l.Begin() }},
		{"Grey of no object", 0, 1, func() { l.Grey() }},
		{"Sweep of no object", 0, 0, func() { l.Sweep() }},
		{"All of no object", 0, 2, all},
		{"Add", 0, 24, add},
		{"Add", 0, 24, add},
		{"Add", 0, 24, add},
		{"Add", 0, 24, add},
		{"Add", 0, 24, add},
		{"Add of no word", 0, 24, func() { l.Add(0) }},
		{"Add of too many words", 0, 24, func() { l.Add(mostWords + 1) }},
		{"Size", 2, 2, func() { l.Size(3) }},
		{"Size of no object", 0, 2, func() { l.Size(6) }},
		{"Read", 3, 3, func() { l.Read(3, 29) }},
		{"Read of no word", 0, 3, func() { l.Read(3, 30) }},
		{"Read of no object", 0, 3, func() { l.Read(6, 0) }},
		{"Write", 3, 3, func() { l.Write(3, 0, 5) }},
		{"Write of what it is", 3, 3, func() { l.Write(3, 0, 5) }},
		{"Write of no word", 0, 3, func() { l.Write(3, -1, 5) }},
		{"Write of no object", 0, 3, func() { l.Write(0, 0, 5) }},
		{"Marked", 2, 2, func() { l.Marked(3) }},
		{"Marked of no object", 0, 2, func() { l.Marked(-1) }},
		{"Mark of a marked one", 0, 12, func() { l.Mark(3) }},
		{"Grey", 0, 1, func() { l.Grey() }},
		{"Grey", 0, 1, func() { l.Grey() }},
		{"Begin", 0, 2, func() { l.Begin() }},
		{"Marked of an unmarked one", 2, 2, func() { l.Marked(3) }},
		{"Mark", 0, 12, func() { l.Mark(3) }},
		{"Mark", 0, 12, func() { l.Mark(5) }},
		{"Mark", 0, 12, func() { l.Mark(1) }},
		{"Mark of no object", 0, 12, func() { l.Mark(6) }},
		{"Grey", 0, 1, func() { l.Grey() }},
		{"Grey", 0, 1, func() { l.Grey() }},
		{"Grey", 0, 1, func() { l.Grey() }},
		{"Grey of no further one", 0, 1, func() { l.Grey() }},
		{"All", 0, 7, all},
		{"Count", 0, 0, func() { l.Count() }},
		{"Words", 0, 0, func() { l.Words() }},
		{"All that is not gone through", 0, 0, func() { l.All() }},
		{"Begin", 0, 2, func() { l.Begin() }},
		{"Mark", 0, 12, func() { l.Mark(2) }},
		{"Sweep of 4", 0, 64, func() { l.Sweep() }},
		{"Sweep of none", 0, 0, func() { l.Sweep() }},
		{"Add to a number that was returned", 0, 24, add},
		{"All", 0, 4, all},
	} {
		if n := steps(m, c.call); n < c.least || n > c.most {
			t.Errorf("%s: %d steps", c.name, n)
		}
	}
}

// What a call takes does not depend on how many objects there are, nor on how
// many words they have.
func TestStepsOfManyObjects(t *testing.T) {
	p := newPair(t, mem.New())
	m, l := p.m, p.got
	for i := range 3000 {
		if n := steps(m, func() { l.Add(1 + i) }); n > 24 {
			t.Fatalf("Add: %d steps", n)
		}
	}
	most := func(name string, most int, call func()) {
		t.Helper()
		if n := steps(m, call); n > most {
			t.Errorf("%s: %d steps", name, n)
		}
	}
	most("All", 3002, func() { all(l) })
	most("Begin", 2, l.Begin)
	for id := 5; id <= 3000; id += 5 {
		most("Mark", 12, func() { l.Mark(id) })
		most("Grey", 1, func() { l.Grey() })
	}
	most("All", 3002, func() { all(l) })
	most("Sweep", 16*2400, func() { l.Sweep() })
	most("All", 602, func() { all(l) })
	most("Begin", 2, l.Begin)
	most("Sweep", 16*600, func() { l.Sweep() })
}

// The words of all objects are in use, and those of the entries.
func TestHeld(t *testing.T) {
	m := mem.New()
	m.Open(1000)
	l, _ := large.New(m)
	add := func(n, words int) {
		for range n {
			l.Add(words)
		}
	}
	for _, c := range []struct {
		name         string
		held, spaces int
		call         func()
	}{
		{"New", 1000, 2, func() {}},
		{"Add of no word", 1000, 2, func() { add(1, 0) }},
		{"Add", 1048 + 1, 3, func() { add(1, 1) }},
		{"Add", 1048 + 8, 10, func() { add(7, 1) }},
		{"Add of a ninth one", 1096 + 18, 11, func() { add(1, 10) }},
		{"Add", 1096 + 88, 18, func() { add(7, 10) }},
		{"Add of a seventeenth one", 1192 + 288, 19, func() { add(1, 200) }},
		{"Begin", 1192 + 288, 19, func() { l.Begin() }},
		{"Mark", 1192 + 288, 19, func() { l.Mark(9); l.Mark(1); l.Mark(1) }},
		{"Grey", 1192 + 288, 19, func() { l.Grey() }},
		{"Sweep", 1192 + 11, 4, func() { l.Sweep() }},
		{"Sweep again", 1192 + 11, 4, func() { l.Sweep() }},
		{"Add", 1192 + 86, 19, func() { add(15, 5) }},
		{"Begin", 1192 + 86, 19, func() { l.Begin() }},
		{"Sweep of all", 1192, 2, func() { l.Sweep() }},
	} {
		c.call()
		if m.Held() != c.held || m.Spaces() != c.spaces {
			t.Errorf("%s: %d words in use, %d spaces, not %d and %d", c.name, m.Held(), m.Spaces(), c.held, c.spaces)
		}
	}
	if m.High() != 1192+288 {
		t.Errorf("High: %d", m.High())
	}
}

// What an object is, which ones are marked and in which order they stand is in
// the Mem: where all of it is put back as it was, so is what the Large tells.
func TestAllIsInTheMem(t *testing.T) {
	m := mem.New()
	l, _ := large.New(m)
	for range 6 {
		l.Add(2)
	}
	l.Begin()
	for _, id := range []int{5, 2, 3} {
		l.Mark(id)
	}
	words, _ := m.Look(0)
	tell := func() string {
		var out []any
		for id := range l.All() {
			size, _ := l.Size(id)
			marked, _ := l.Marked(id)
			out = append(out, id, size, marked)
		}
		return fmt.Sprint(out...)
	}
	before := tell()
	m.Zero(0, 0, len(words))
	if got := tell(); got == before {
		t.Errorf("%s with an empty pool", got)
	}
	for at, w := range words {
		m.Write(0, at, w)
	}
	if got := tell(); got != before {
		t.Errorf("%s, not %s", got, before)
	}
}

// Long runs of calls, with all words and steps.
func TestRuns(t *testing.T) {
	seen := map[string]int{}
	most := 0
	for seed := range noise(20) {
		p := newPair(t, mem.New())
		p.run(t, seed, 1500, func(call string, e api.Errno) {
			seen[call]++
			most = max(most, len(p.want.objects))
			p.check(t, call)
		})
	}
	for _, call := range []string{
		"Add true 0", "Add true 1", "Add true 7", "Write true 0", "Write true 4", "Write true 11", "Read true 0", "Read true 4", "Read true 11",
		"Size true 0", "Size true 4", "Marked true 0", "Marked true 4", "Mark true 0", "Mark false 0", "Mark false 4",
		"Grey true 0", "Grey false 0", "Begin true 0", "Sweep true 0", "Sweep false 0", "ask true 0",
	} {
		if seen[call] < 20 {
			t.Errorf("%s: %d times only", call, seen[call])
		}
	}
	if most < 20 {
		t.Errorf("%d objects only", most)
	}
}

// P15.4

// A marked object keeps its number and its words, through all collections that
// mark it, whatever becomes of others.
func TestMarkedObjectsStay(t *testing.T) {
	for seed := range noise(10) {
		l, _ := large.New(mem.New())
		stay := map[int][]uint64{}
		for i := range 40 {
			id, e := l.Add(1 + seed.below(9))
			if e != api.OK {
				t.Fatalf("Add: error %d", e)
			}
			size, _ := l.Size(id)
			words := make([]uint64, size)
			for at := range words {
				words[at] = seed.word()
				l.Write(id, at, words[at])
			}
			if i%2 == 0 {
				stay[id] = words
			}
		}
		for range 30 {
			l.Begin()
			for id := range stay {
				l.Mark(id)
			}
			for range seed.below(5) {
				l.Add(1 + seed.below(9))
			}
			l.Sweep()
			for id, want := range stay {
				if size, e := l.Size(id); size != len(want) || e != api.OK {
					t.Fatalf("Size(%d): %d, error %d", id, size, e)
				}
				for at, want := range want {
					if w, e := l.Read(id, at); w != want || e != api.OK {
						t.Fatalf("Read(%d, %d): %d, error %d, not %d", id, at, w, e, want)
					}
				}
			}
		}
	}
}

// Nothing remains of an unmarked object but its entry, whatever its size.
func TestNothingRemains(t *testing.T) {
	for _, size := range []int{1, 2, 65, 4096, 65536, mostWords} {
		m := mem.New()
		l, _ := large.New(m)
		l.Add(7)
		l.Add(size)
		held := m.Held() - size
		l.Begin()
		l.Mark(1)
		if count, words := l.Sweep(); count != 1 || words != size {
			t.Errorf("Sweep: %d, %d, not %d words", count, words, size)
		}
		if m.Held() != held || m.Held() != 48+7 || m.Spaces() != 2 || l.Count() != 1 || l.Words() != 7 {
			t.Errorf("%d words: %d words in use, %d spaces, Count %d, Words %d", size, m.Held(), m.Spaces(), l.Count(), l.Words())
		}
		if _, e := l.Read(2, 0); e != api.ErrNone {
			t.Errorf("Read: error %d", e)
		}
	}
}

// P1

// Calls end and do not panic, whatever was done to the spaces, even if they do
// not exist any more.
func TestCallsEndForAllSpaces(t *testing.T) {
	for seed := range noise(300) {
		m := mem.New()
		l, _ := large.New(m)
		for range 12 {
			l.Add(1 + seed.below(5))
		}
		l.Begin()
		for range 5 {
			l.Mark(1 + seed.below(12))
		}
		l.Grey()
		words, _ := m.Look(0)
		for at := range words {
			switch seed.below(6) {
			case 0:
				m.Write(0, at, seed.word()>>seed.below(64))
			case 1:
				m.Write(0, at, uint64(seed.some(12)))
			}
		}
		for id := range 4 {
			switch seed.below(5) {
			case 0:
				m.Close(id)
			case 1:
				m.Close(id)
				m.Open(seed.below(90))
			}
		}
		for range 200 {
			id, at := seed.some(20), seed.some(5)
			l.Add(at)
			l.Size(id)
			l.Read(id, at)
			l.Write(id, at, seed.word())
			l.Marked(id)
			l.Mark(id)
			l.Grey()
			l.Count()
			l.Words()
			for range l.All() {
			}
			if seed.below(9) == 0 {
				l.Begin()
			}
			if seed.below(9) == 0 {
				l.Sweep()
			}
		}
	}
}

// P2 (rules 3 and 4)

func TestFailedCallsHaveNoEffect(t *testing.T) {
	for seed := range noise(8) {
		m := mem.New()
		p := newPair(t, m)
		look := func() string {
			out := []any{m.Held(), m.High(), m.Spaces(), p.got.Count(), p.got.Words()}
			for id := range m.Spaces() + 20 {
				words, e := m.Look(id)
				out = append(out, words, e)
			}
			return fmt.Sprint(append(out, all(p.got))...)
		}
		before, failed := look(), 0
		p.run(t, 100+seed, 800, func(call string, e api.Errno) {
			now := look()
			if e != api.OK || slices.Contains([]string{"ask true 0", "Size true 0", "Read true 0", "Marked true 0", "Mark false 0", "Grey false 0", "Sweep false 0"}, call) {
				failed++
				if now != before {
					t.Fatalf("%s changed %s to %s", call, before, now)
				}
			}
			before = now
		})
		if failed < 100 {
			t.Errorf("%d calls failed only", failed)
		}
	}
}

// The same calls have the same results.
func TestTheSameCalls(t *testing.T) {
	run := func() []string {
		m := mem.New()
		p := newPair(t, m)
		var out []string
		p.run(t, 200, 500, func(string, api.Errno) { out = append(out, p.tell(), counted(m)) })
		return out
	}
	if !slices.Equal(run(), run()) {
		t.Errorf("the same calls differ")
	}
}

// Larges in one Mem, and in others, leave each other alone, and the other
// spaces of their Mem too.
func TestLargesAreApart(t *testing.T) {
	m := mem.New()
	other, _ := m.Open(5)
	m.Write(other, 4, 77)
	list := []*pair{newPair(t, m), newPair(t, m), newPair(t, mem.New()), newPair(t, m)}
	for i := range 60 {
		for at, p := range list {
			p.run(t, noise(1000*i+at), 15, func(string, api.Errno) {})
			for _, p := range list {
				p.otherWords = p.m.Held() - p.want.held()
				p.otherSpaces = p.m.Spaces() - 1 - len(p.want.objects)
				p.check(t, "a call on another Large")
			}
		}
	}
	if words, _ := m.Look(other); !slices.Equal(words, []uint64{0, 0, 0, 0, 77}) {
		t.Errorf("another space: %v", words)
	}
	held, spaces := 5, 1
	for _, p := range []*pair{list[0], list[1], list[3]} {
		held += p.want.held()
		spaces += 1 + len(p.want.objects)
	}
	if m.Held() != held || m.Spaces() != spaces {
		t.Errorf("%d words in use, %d spaces, not %d and %d", m.Held(), m.Spaces(), held, spaces)
	}
}

// A Large shows the chapter's methods and nothing else, and all that it keeps
// beside its Mem is a pool, the ends of its lists, and numbers.
func TestNothingElseIsExported(t *testing.T) {
	of := reflect.TypeFor[*large.Large]()
	var got []string
	for i := range of.NumMethod() {
		got = append(got, of.Method(i).Name)
	}
	want := []string{"Add", "All", "Begin", "Count", "Grey", "Mark", "Marked", "Read", "Size", "Sweep", "Words", "Write"}
	if !slices.Equal(got, want) {
		t.Errorf("methods: %v", got)
	}
	kept := []reflect.Type{reflect.TypeFor[*mem.Mem](), reflect.TypeFor[*pool.Pool](), reflect.TypeFor[chain.Chain](), reflect.TypeFor[int]()}
	for i := range of.Elem().NumField() {
		f := of.Elem().Field(i)
		if f.IsExported() || f.Anonymous || !slices.Contains(kept, f.Type) {
			t.Errorf("field %s of type %v", f.Name, f.Type)
		}
	}
}
