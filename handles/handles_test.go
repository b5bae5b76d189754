package handles_test

import (
	"fmt"
	"iter"
	"math"
	"reflect"
	"slices"
	"testing"

	"haymow/api"
	"haymow/chain"
	"haymow/handles"
	"haymow/mem"
	"haymow/pool"
	"haymow/ref"
)

// The calls have these signatures exactly.
var (
	_ func(*mem.Mem) (*handles.Handles, api.Errno)     = handles.New
	_ func(*handles.Handles) int                       = (*handles.Handles).Count
	_ func(*handles.Handles, ref.Ref) (int, api.Errno) = (*handles.Handles).Add
	_ func(*handles.Handles, int) api.Errno            = (*handles.Handles).Drop
	_ func(*handles.Handles, int) (ref.Ref, api.Errno) = (*handles.Handles).Get
	_ func(*handles.Handles, int, ref.Ref) api.Errno   = (*handles.Handles).Set
	_ func(*handles.Handles) iter.Seq[int]             = (*handles.Handles).Tokens
	_ func(*handles.Handles, func(ref.Ref) ref.Ref)    = (*handles.Handles).Turn
)

// The bounds of the layers that the chapter uses.
const (
	mostSpaces = 262144
	mostIds    = 1048576
)

// The example of the chapter.
func TestExample(t *testing.T) {
	h, e := handles.New(mem.New())
	if e != api.OK {
		t.Fatalf("New: error %d", e)
	}
	for want := range 2 {
		if k, e := h.Add(5); k != want || e != api.OK {
			t.Errorf("Add: %d, error %d", k, e)
		}
	}
	if e := h.Drop(0); e != api.OK {
		t.Errorf("Drop: error %d", e)
	}
	if k, e := h.Add(6); k != 1048576 || e != api.OK {
		t.Errorf("Add: %d, error %d", k, e)
	}
	if r, e := h.Get(0); r != ref.Nil || e != api.ErrHandle {
		t.Errorf("Get: %d, error %d", r, e)
	}
}

// P18.1

func TestNew(t *testing.T) {
	m := mem.New()
	m.Open(100)
	for i := range 5 {
		p := newPair(t, m)
		// An empty space of its own, the next one.
		size, e := m.Size(i + 1)
		if size != 0 || e != api.OK || m.Spaces() != i+2 || m.Held() != 100 || m.Steps() != (api.Wide{}) {
			t.Errorf("New: %d words, error %d, %d spaces, %d words in use, steps %v", size, e, m.Spaces(), m.Held(), m.Steps())
		}
		if p.got.Count() != 0 || len(tokens(p.got)) != 0 || len(held(p.got)) != 0 {
			t.Errorf("New: Count %d, Tokens %v, Turn %v", p.got.Count(), tokens(p.got), held(p.got))
		}
		p.refused(t, append(far(), -2, -1, 0, 1, 2)...)
		if m.Steps() != (api.Wide{}) {
			t.Errorf("New: steps %v", m.Steps())
		}
	}
}

func TestNewOfNoMem(t *testing.T) {
	if h, e := handles.New(nil); h != nil || e != api.ErrArg {
		t.Errorf("New(nil): %v, error %d", h, e)
	}
}

// The error of mem.Open.
func TestNewWithoutASpace(t *testing.T) {
	m := mem.New()
	for range mostSpaces {
		m.Open(0)
	}
	before := counted(m)
	if h, e := handles.New(m); h != nil || e != api.ErrFull {
		t.Errorf("New: %v, error %d", h, e)
	}
	if counted(m) != before {
		t.Errorf("New: %s, not %s", counted(m), before)
	}
	m.Close(4711)
	p := newPair(t, m)
	p.addAll(t, 9)
	p.check(t, "Add")
	if size, _ := m.Size(4711); size != 64 {
		t.Errorf("the space has %d words", size)
	}
}

func TestAddAndCount(t *testing.T) {
	p := newPair(t, mem.New())
	for i := range 70 {
		if k := p.add(t, ref.Ref(300+i)); k != i {
			t.Errorf("Add: %d, not %d", k, i)
		}
		if p.got.Count() != i+1 {
			t.Errorf("Count: %d, not %d", p.got.Count(), i+1)
		}
		p.check(t, "Add", i)
	}
	for i := range 70 {
		p.drop(t, 69-i)
		if p.got.Count() != 69-i {
			t.Errorf("Count: %d, not %d", p.got.Count(), 69-i)
		}
	}
	p.check(t, "Drop")
}

// Each bit of what a handle holds is stored on its own: it holds whatever it is
// given, also what is Bad as a reference.
func TestHandlesHoldAllWords(t *testing.T) {
	p := newPair(t, mem.New())
	p.addAll(t, 3)
	words := []ref.Ref{ref.Nil, math.MaxUint64}
	for bit := range 64 {
		words = append(words, 1<<bit, math.MaxUint64-1<<bit)
	}
	for _, r := range words {
		k := p.add(t, r)
		p.check(t, "Add", r)
		p.set(t, 1, r)
		p.check(t, "Set", r)
		p.set(t, k, 5)
		p.drop(t, 1000)
		p.drop(t, k)
		p.check(t, "Drop", r)
	}
}

// The tokens, written out: the entry that was returned last is the first to be
// taken again, each time in another generation.
func TestTokensOfTakenEntries(t *testing.T) {
	h, _ := handles.New(mem.New())
	add := func(want int) {
		t.Helper()
		if k, e := h.Add(8); k != want || e != api.OK {
			t.Errorf("Add: %d, error %d, not %d", k, e, want)
		}
	}
	drop := func(k int) {
		t.Helper()
		if e := h.Drop(k); e != api.OK {
			t.Errorf("Drop(%d): error %d", k, e)
		}
	}
	for want := range 4 {
		add(want)
	}
	drop(2)
	drop(0)
	add(1048576)
	drop(3)
	add(1048579)
	add(1048578)
	add(4)
	drop(1048576)
	add(2097152)
	drop(2097152)
	drop(1)
	add(1048577)
	add(3145728)
	add(5)
}

// The entries are those of a pool of which the same is asked.
func TestEntriesAreThoseOfAPool(t *testing.T) {
	for seed := range noise(10) {
		h, _ := handles.New(mem.New())
		x, _ := pool.New(mem.New(), 3)
		var list []int
		for range 2000 {
			if seed.below(2) == 0 && len(list) > 0 {
				at := seed.below(len(list))
				k := list[at]
				if e, f := h.Drop(k), x.Give(k%1048576+1); e != f {
					t.Fatalf("Drop(%d): error %d, not %d", k, e, f)
				}
				list = slices.Delete(list, at, at+1)
				continue
			}
			id, f := x.Take()
			k, e := h.Add(seed.ref())
			if k != id-1+1048576*x.Gen(id) || e != f {
				t.Fatalf("Add: %d, error %d, in entry %d of generation %d, error %d", k, e, id, x.Gen(id), f)
			}
			list = append(list, k)
			if h.Count() != x.Count() {
				t.Fatalf("Count: %d, not %d", h.Count(), x.Count())
			}
		}
	}
}

// As many handles as a pool has entries, and no further one until one is
// dropped.
func TestAddOfMostHandles(t *testing.T) {
	m := mem.New()
	h, _ := handles.New(m)
	for i := range mostIds {
		if k, e := h.Add(ref.Ref(i + 1)); k != i || e != api.OK {
			t.Fatalf("Add: %d, error %d, not %d", k, e, i)
		}
	}
	if h.Count() != mostIds || m.Held() != 4*mostIds {
		t.Errorf("Count: %d, %d words in use", h.Count(), m.Held())
	}
	full := func() {
		t.Helper()
		words, _ := m.Look(0)
		held, high := m.Held(), m.High()
		for range 3 {
			n := steps(m, func() {
				if k, e := h.Add(7); k != 0 || e != api.ErrFull {
					t.Errorf("Add: %d, error %d", k, e)
				}
			})
			if n > 16 {
				t.Errorf("Add: %d steps", n)
			}
		}
		now, _ := m.Look(0)
		if !slices.Equal(words, now) || m.Held() != held || m.High() != high || h.Count() != mostIds {
			t.Errorf("Add changed what there is")
		}
	}
	full()
	for _, c := range []struct{ drop, add int }{{4711, 1053287}, {1053287, 2101863}, {0, 1048576}, {1048575, 2097151}} {
		if e := h.Drop(c.drop); e != api.OK {
			t.Errorf("Drop(%d): error %d", c.drop, e)
		}
		if k, e := h.Add(9); k != c.add || e != api.OK {
			t.Errorf("Add: %d, error %d, not %d", k, e, c.add)
		}
		if r, e := h.Get(c.add); r != 9 || e != api.OK {
			t.Errorf("Get(%d): %d, error %d", c.add, r, e)
		}
		full()
	}
	got := tokens(h)
	if len(got) != mostIds || got[0] != 1 || got[4711] != 4713 || !slices.Equal(got[mostIds-3:], []int{2101863, 1048576, 2097151}) {
		t.Errorf("Tokens: %d of them", len(got))
	}
	met := 0
	if n := steps(m, func() { h.Turn(func(r ref.Ref) ref.Ref { met++; return r + 1 }) }); n > 6*mostIds || met != mostIds {
		t.Errorf("Turn: %d references, %d steps", met, n)
	}
	for _, k := range []int{1, 2, 77777, 1048574} {
		if r, e := h.Get(k); r != ref.Ref(k+2) || e != api.OK {
			t.Errorf("Get(%d): %d, error %d", k, r, e)
		}
	}
}

// ErrFull as pool.Take, whose space cannot grow here as it is closed.
func TestAddWithoutAnEntry(t *testing.T) {
	for _, n := range []int{0, 8, 16} {
		m := mem.New()
		h, _ := handles.New(m)
		for range n {
			h.Add(5)
		}
		m.Close(0)
		for range 3 {
			if k, e := h.Add(5); k != 0 || e != api.ErrFull || h.Count() != n || m.Held() != 0 {
				t.Errorf("%d handles: Add: %d, error %d, Count %d", n, k, e, h.Count())
			}
		}
	}
}

// P18.2

func TestDrop(t *testing.T) {
	p := newPair(t, mem.New())
	p.addAll(t, 10)
	p.dropAll(t, 4)
	p.order(t, "Drop(4)", 0, 1, 2, 3, 5, 6, 7, 8, 9)
	p.dropAll(t, 0, 9)
	p.order(t, "Drop(9)", 1, 2, 3, 5, 6, 7, 8)
	p.refused(t, 4, 0, 9, 1048580, 1048576, 1048585)
	p.addAll(t, 2)
	p.order(t, "Add", 1, 2, 3, 5, 6, 7, 8, 1048585, 1048576)
	p.refused(t, 4, 0, 9, 1048580, 2097152, 2097161)
	p.dropAll(t, 1, 2, 3, 5, 6, 7, 8, 1048585, 1048576)
	p.order(t, "Drop of all")
	p.addAll(t, 1)
	p.order(t, "Add", 2097152)
}

// Handles are dropped in each order, and others are added to their entries.
func TestDropInAllOrders(t *testing.T) {
	const n = 5
	seen := 0
	var try func(order []int)
	try = func(order []int) {
		seen++
		p := newPair(t, mem.New())
		p.addAll(t, n)
		p.dropAll(t, order...)
		p.refused(t, order...)
		var want []int
		for k := range n {
			if !slices.Contains(order, k) {
				want = append(want, k)
			}
		}
		p.order(t, "Drop", want...)
		for _, k := range slices.Backward(order) {
			want = append(want, k+1048576)
			p.add(t, ref.Ref(70+k))
			p.check(t, "Add", k)
		}
		p.order(t, "Add", want...)
		p.refused(t, order...)
		for k := range n {
			if !slices.Contains(order, k) {
				try(append(slices.Clone(order), k))
			}
		}
	}
	try(nil)
	if seen != 1+5+20+60+120+120 {
		t.Errorf("%d orders", seen)
	}
}

// A token is that of a handle as a whole only.
func TestNoHandle(t *testing.T) {
	p := newPair(t, mem.New())
	p.addAll(t, 5)
	p.dropAll(t, 1, 3)
	p.add(t, 44)
	p.add(t, 55)
	p.dropAll(t, 1048579)
	p.order(t, "Drop", 0, 2, 4, 1048577)
	for _, k := range append(far(), -1048577, -1048576, -1048575, -6, -5, -4, -3, -2, -1, 0, 1, 2, 3, 4, 5, 6, 7, 8, 9, 15, 16, 17,
		1048575, 1048576, 1048577, 1048578, 1048579, 1048580, 1048581, 2097151, 2097152, 2097153, 2097154, 2097155, 2097156, 3145731) {
		want := api.ErrHandle
		if slices.Contains([]int{0, 2, 4, 1048577}, k) {
			want = api.OK
		}
		if e := p.get(t, k); e != want {
			t.Errorf("Get(%d): error %d", k, e)
		}
		if e := p.set(t, k, 9); e != want {
			t.Errorf("Set(%d): error %d", k, e)
		}
		p.check(t, "Set", k)
		if want != api.OK {
			p.refused(t, k)
		}
	}
}

// Entries that are not in use have a next token, which is not one as yet.
func TestTokensThatAreNotYetThere(t *testing.T) {
	p := newPair(t, mem.New())
	p.addAll(t, 1)
	for gen := 1; gen < 50; gen++ {
		p.dropAll(t, (gen-1)*1048576)
		p.refused(t, gen*1048576, (gen+1)*1048576)
		p.add(t, ref.Ref(gen))
		p.order(t, "Add", gen*1048576)
		p.refused(t, (gen-1)*1048576, (gen+1)*1048576)
	}
}

func TestGetAndSet(t *testing.T) {
	p := newPair(t, mem.New())
	p.addAll(t, 20)
	for i := range 60 {
		k := i * 7 % 20
		p.set(t, k, ref.Ref(i*i))
		p.get(t, k)
		p.check(t, "Set", k)
	}
}

// Each of many handles is read and written on its own.
func TestManyHandles(t *testing.T) {
	const many = 140000
	h, _ := handles.New(mem.New())
	hold := func(call string, want func(k int) ref.Ref) {
		t.Helper()
		for k := range many {
			if r, e := h.Get(k); r != want(k) || e != api.OK {
				t.Fatalf("%s: Get(%d): %d, error %d", call, k, r, e)
			}
		}
	}
	for i := range many {
		h.Add(ref.Ref(2*i + 1))
	}
	hold("Add", func(k int) ref.Ref { return ref.Ref(2*k + 1) })
	for k := range many {
		if e := h.Set(k, ref.Ref(5*k+2)); e != api.OK {
			t.Fatalf("Set(%d): error %d", k, e)
		}
	}
	hold("Set", func(k int) ref.Ref { return ref.Ref(5*k + 2) })
	h.Turn(func(r ref.Ref) ref.Ref { return r + 7 })
	hold("Turn", func(k int) ref.Ref { return ref.Ref(5*k + 9) })
	at := 0
	for k := range h.Tokens() {
		if k != at {
			t.Fatalf("Tokens: %d, not %d", k, at)
		}
		at++
	}
}

// The order of creation stays, whatever handles hold and however often that is
// changed.
func TestTokensInOrder(t *testing.T) {
	p := newPair(t, mem.New())
	p.addAll(t, 6)
	p.set(t, 3, ref.Nil)
	p.set(t, 0, 4000)
	p.turn(t, func(r ref.Ref) ref.Ref { return 5000 - r })
	p.order(t, "Turn", 0, 1, 2, 3, 4, 5)
	p.dropAll(t, 0, 3)
	p.set(t, 1, 1)
	p.addAll(t, 3)
	p.order(t, "Add", 1, 2, 4, 5, 1048579, 1048576, 6)
	p.check(t, "Add")
}

// Tokens may be broken off at each handle, and be gone through again.
func TestTokens(t *testing.T) {
	for n := range 12 {
		p := newPair(t, mem.New())
		p.addAll(t, n)
		seq := p.got.Tokens()
		for stop := 1; stop <= n+1; stop++ {
			var got []int
			p.most(t, 3*n, func() {
				for k := range seq {
					got = append(got, k)
					if len(got) == stop {
						break
					}
				}
			}, "Tokens", n, stop)
			if !slices.Equal(got, p.want.tokens()[:min(stop, n)]) {
				t.Errorf("Tokens: %v of %d", got, n)
			}
		}
		p.check(t, "Tokens")
		pairs := 0
		for range seq {
			for range p.got.Tokens() {
				pairs++
			}
		}
		if pairs != n*n {
			t.Errorf("Tokens within Tokens: %d, not %d", pairs, n*n)
		}
	}
}

// All tokens are yielded of handles that there are, whatever becomes of others
// meanwhile, and none of handles that there are not.
func TestChangesWithinTokens(t *testing.T) {
	for _, c := range []struct {
		name string
		body func(p *pair, k int)
		want []int
	}{
		{"Drop of it", func(p *pair, k int) { p.drop(t, k) }, []int{0, 1, 2, 3, 4, 5}},
		{"Add", func(p *pair, k int) { p.add(t, 7) }, []int{0, 1, 2, 3, 4, 5}},
		{"Drop of it, and Add", func(p *pair, k int) { p.drop(t, k); p.add(t, 7) }, []int{0, 1, 2, 3, 4, 5}},
		{"Drop of the next one", func(p *pair, k int) { p.drop(t, k+1) }, []int{0, 2, 4}},
		{"Drop of the next one, and Add", func(p *pair, k int) { p.drop(t, k+1); p.add(t, 7) }, []int{0, 2, 4}},
		{"Drop of it and the next one, and Add", func(p *pair, k int) { p.drop(t, k); p.drop(t, k+1); p.add(t, 7); p.add(t, 7) }, []int{0, 2, 4}},
		{"Drop of the one before", func(p *pair, k int) { p.drop(t, k-1); p.add(t, 7) }, []int{0, 1, 2, 3, 4, 5}},
		{"Drop of all", func(p *pair, k int) { p.dropAll(t, p.want.tokens()...) }, []int{0}},
		{"Drop of all others, and Add", func(p *pair, k int) {
			for other := range 6 {
				if other != k {
					p.drop(t, other)
				}
			}
			p.add(t, 7)
		}, []int{0}},
		{"Set", func(p *pair, k int) { p.set(t, k, ref.Nil); p.set(t, 5-k, 9) }, []int{0, 1, 2, 3, 4, 5}},
		{"Turn", func(p *pair, k int) { p.turn(t, func(r ref.Ref) ref.Ref { return r + 1 }) }, []int{0, 1, 2, 3, 4, 5}},
	} {
		p := newPair(t, mem.New())
		p.addAll(t, 6)
		var got []int
		for k := range p.got.Tokens() {
			got = append(got, k)
			if len(got) > 99 {
				break
			}
			c.body(p, k)
		}
		if !slices.Equal(got, c.want) {
			t.Errorf("%s: %v, not %v", c.name, got, c.want)
		}
		p.check(t, c.name)
	}
}

// The same, of all that may be done.
func TestAllChangesWithinTokens(t *testing.T) {
	for seed := range noise(200) {
		p := newPair(t, mem.New())
		p.addAll(t, 1+seed.below(20))
		due := p.want.tokens()
		for k := range p.got.Tokens() {
			// Those that were dropped since are left out.
			for len(due) > 0 && due[0] != k {
				p.refused(t, due[0])
				due = due[1:]
			}
			if len(due) == 0 {
				t.Fatalf("Tokens: %d", k)
			}
			due = due[1:]
			p.run(t, seed, seed.below(9), func(string, api.Errno) {})
			seed.below(1)
			p.check(t, "Tokens")
		}
		p.refused(t, due...)
	}
}

func TestTurnOfNothing(t *testing.T) {
	for n := range 10 {
		p := newPair(t, mem.New())
		p.addAll(t, n)
		p.most(t, 0, func() { p.got.Turn(nil) }, "Turn of nil")
		p.check(t, "Turn of nil")
		for k := range n {
			p.set(t, k, ref.Nil)
		}
		p.turn(t, func(r ref.Ref) ref.Ref {
			t.Errorf("Turn gave %d", r)
			return 5
		})
		p.check(t, "Turn")
	}
}

// The order, written out.
func TestTurnOrder(t *testing.T) {
	h, _ := handles.New(mem.New())
	turn := func(add ref.Ref, want ...ref.Ref) {
		t.Helper()
		var met []ref.Ref
		h.Turn(func(r ref.Ref) ref.Ref {
			met = append(met, r)
			return r + add
		})
		if !slices.Equal(met, want) {
			t.Errorf("Turn: %v, not %v", met, want)
		}
	}
	for i := range 6 {
		h.Add(ref.Ref(60 - i))
	}
	turn(100, 60, 59, 58, 57, 56, 55)
	h.Drop(1)
	h.Drop(4)
	h.Set(2, ref.Nil)
	turn(0, 160, 157, 155)
	h.Add(7)
	h.Add(8)
	h.Set(2, 9)
	turn(1, 160, 9, 157, 155, 7, 8)
	h.Drop(0)
	turn(1, 10, 158, 156, 8, 9)
	for k := range h.Tokens() {
		h.Drop(k)
	}
	turn(1)
}

// A handle holds whatever the function returns: nil, which the next Turn skips,
// and what is Bad as a reference.
func TestTurnToAllWords(t *testing.T) {
	p := newPair(t, mem.New())
	for bit := range 64 {
		p.addAll(t, 2)
		p.add(t, ref.Nil)
		p.turn(t, func(r ref.Ref) ref.Ref { return 1<<bit | r })
		p.check(t, "Turn", bit)
		p.turn(t, func(r ref.Ref) ref.Ref { return ^r })
		p.check(t, "Turn", bit)
		p.turn(t, func(r ref.Ref) ref.Ref { return (r & 1) * 1 << bit })
		p.check(t, "Turn", bit)
		p.turn(t, func(ref.Ref) ref.Ref { return ref.Nil })
		p.check(t, "Turn", bit)
		p.turn(t, func(ref.Ref) ref.Ref { return 5 })
		p.check(t, "Turn", bit)
	}
}

// A function is asked once for each handle, though handles hold the same.
func TestTurnOfTheSame(t *testing.T) {
	p := newPair(t, mem.New())
	for range 12 {
		p.add(t, 7)
	}
	n := ref.Ref(0)
	p.got.Turn(func(r ref.Ref) ref.Ref {
		n++
		return r + n
	})
	if n != 12 {
		t.Errorf("Turn asked %d times", n)
	}
	for k := range 12 {
		p.want.set(k, ref.Ref(8+k))
	}
	p.check(t, "Turn")
}

// P18.3

// The most steps, written out.
func TestSteps(t *testing.T) {
	m := mem.New()
	var h *handles.Handles
	add := func() { h.Add(5) }
	turn := func() { h.Turn(func(r ref.Ref) ref.Ref { return r + 1 }) }
	all := func() {
		for range h.Tokens() {
		}
	}
	for _, c := range []struct {
		name string
		most int
		call func()
	}{
		{"New", 0, func() { h, _ = handles.New(m) }},
		{"Tokens of no handle", 0, all},
		{"Turn of no handle", 0, turn},
		{"Add", 16, add},
		{"Tokens of one handle", 3, all},
		{"Turn of one handle", 6, turn},
		{"Add", 16, add},
		{"Tokens of two handles", 6, all},
		{"Turn of two handles", 12, turn},
		{"Add", 16, add},
		{"Add", 16, add},
		{"Add", 16, add},
		{"Get", 6, func() { h.Get(2) }},
		{"Get of no handle", 6, func() { h.Get(2 + 1048576) }},
		{"Get of no entry", 6, func() { h.Get(5) }},
		{"Set", 6, func() { h.Set(2, 9) }},
		{"Set of no handle", 6, func() { h.Set(-1048576, 9) }},
		{"Count", 0, func() { h.Count() }},
		{"Turn of nil", 0, func() { h.Turn(nil) }},
		{"Drop of no handle", 12, func() { h.Drop(1048577) }},
		{"Drop of one between others", 12, func() { h.Drop(2) }},
		{"Drop of the last one", 12, func() { h.Drop(4) }},
		{"Drop of the first one", 12, func() { h.Drop(0) }},
		{"Drop of a dropped one", 12, func() { h.Drop(0) }},
		{"Add to an entry that was returned", 16, add},
		{"Tokens of three handles", 9, all},
		{"Turn of three handles", 18, turn},
		{"Drop", 12, func() { h.Drop(1) }},
		{"Drop", 12, func() { h.Drop(3) }},
		{"Drop of the only one", 12, func() { h.Drop(1048576) }},
		{"Tokens of no handle", 0, all},
		{"Turn of no handle", 0, turn},
		{"Count", 0, func() { h.Count() }},
	} {
		if n := steps(m, c.call); n > c.most {
			t.Errorf("%s: %d steps, not at most %d", c.name, n, c.most)
		}
	}
	if h.Count() != 0 {
		t.Errorf("Count: %d", h.Count())
	}
}

// What a call takes does not depend on how many handles there are.
func TestStepsOfManyHandles(t *testing.T) {
	m := mem.New()
	h, _ := handles.New(m)
	most := func(name string, most int, call func()) {
		t.Helper()
		if n := steps(m, call); n > most {
			t.Fatalf("%s: %d steps", name, n)
		}
	}
	turn := func() { h.Turn(func(r ref.Ref) ref.Ref { return r + 1 }) }
	for range 3 {
		for h.Count() < 3000 {
			most("Add", 16, func() { h.Add(5) })
		}
		most("Turn", 6*3000, turn)
		list := tokens(h)
		most("Tokens", 3*3000, func() { tokens(h) })
		for i, k := range list {
			most("Get", 6, func() { h.Get(k) })
			most("Set", 6, func() { h.Set(k, ref.Ref(i%2)) })
			if i%5 < 3 {
				most("Drop", 12, func() { h.Drop(k) })
			}
		}
		most("Turn", 6*1200, turn)
		most("Tokens", 3*1200, func() { tokens(h) })
	}
}

// The words of the pool are in use, and no others.
func TestHeld(t *testing.T) {
	m := mem.New()
	m.Open(1000)
	h, _ := handles.New(m)
	add := func(n int) {
		for range n {
			h.Add(5)
		}
	}
	for _, c := range []struct {
		name string
		held int
		call func()
	}{
		{"New", 1000, func() {}},
		{"Add", 1032, func() { add(1) }},
		{"Add", 1032, func() { add(7) }},
		{"Add of a ninth one", 1064, func() { add(1) }},
		{"Add", 1064, func() { add(7) }},
		{"Add of a seventeenth one", 1128, func() { add(1) }},
		{"Tokens", 1128, func() { tokens(h) }},
		{"Turn", 1128, func() { h.Turn(func(r ref.Ref) ref.Ref { return r + 1 }) }},
		{"Drop", 1128, func() { h.Drop(3); h.Drop(3); h.Drop(16) }},
		{"Add", 1128, func() { add(17) }},
		{"Drop of all", 1128, func() {
			for k := range h.Tokens() {
				h.Drop(k)
			}
		}},
		{"Add", 1128, func() { add(32) }},
		{"Add of a thirty-third one", 1256, func() { add(1) }},
	} {
		c.call()
		if m.Held() != c.held || m.High() != c.held || m.Spaces() != 2 {
			t.Errorf("%s: %d words in use, most %d, %d spaces", c.name, m.Held(), m.High(), m.Spaces())
		}
	}
}

// What handles hold, under which tokens and in which order is in the Mem: where
// all of it is put back as it was, so is what the Handles tell.
func TestAllIsInTheMem(t *testing.T) {
	p := newPair(t, mem.New())
	p.addAll(t, 7)
	p.dropAll(t, 4, 0)
	p.add(t, 99)
	words, _ := p.m.Look(0)
	p.check(t, "Add")
	p.m.Zero(0, 0, len(words))
	if p.tell() == p.want.tell() {
		t.Errorf("%s with an empty pool", p.tell())
	}
	for at, w := range words {
		p.m.Write(0, at, w)
	}
	p.check(t, "Write")
}

// Long runs of calls, with all handles and steps.
func TestRuns(t *testing.T) {
	seen := map[string]int{}
	most := 0
	for seed := range noise(20) {
		p := newPair(t, mem.New())
		p.run(t, seed, 1500, func(call string, e api.Errno) {
			seen[fmt.Sprint(call, e)]++
			most = max(most, len(p.want.handles))
			p.check(t, call)
		})
	}
	for _, call := range []string{"Add0", "Drop0", "Drop30", "Get0", "Get30", "Set0", "Set30", "Turn0", "ask0"} {
		if seen[call] < 20 {
			t.Errorf("%s %d times only", call, seen[call])
		}
	}
	if most < 20 {
		t.Errorf("%d handles only", most)
	}
}

// P18.4

// No token is ever there again, and none is that of two handles.
func TestDroppedTokensAreRejected(t *testing.T) {
	for seed := range noise(6) {
		p := newPair(t, mem.New())
		given := map[int]int{}
		for i := range 3000 {
			k := p.add(t, seed.ref())
			if given[k]++; given[k] > 1 {
				t.Fatalf("Add: %d again", k)
			}
			for len(p.want.handles) > seed.below(30) {
				p.drop(t, p.want.handles[seed.below(len(p.want.handles))].token)
			}
			for range 5 {
				if n := len(p.want.dropped); n > 0 {
					k := p.want.dropped[seed.below(n)]
					if p.get(t, k) != api.ErrHandle || p.set(t, k, 3) != api.ErrHandle || p.drop(t, k) != api.ErrHandle {
						t.Fatalf("%d is there again", k)
					}
				}
			}
			if i%500 == 0 {
				p.refused(t, p.want.dropped...)
			}
		}
		p.refused(t, p.want.dropped...)
	}
}

// Nor after as many others in the same entry as a few bits count.
func TestManyGenerations(t *testing.T) {
	m := mem.New()
	h, _ := handles.New(m)
	h.Add(1)
	for n := range 3000000 {
		k, e := h.Add(ref.Ref(n))
		if k != 1+n*1048576 || e != api.OK {
			t.Fatalf("Add: %d, error %d", k, e)
		}
		if _, e := h.Get(1); n > 0 && e != api.ErrHandle {
			t.Fatalf("after %d times: Get(1): error %d", n, e)
		}
		if r, e := h.Get(k); r != ref.Ref(n) || e != api.OK {
			t.Fatalf("Get(%d): %d, error %d", k, r, e)
		}
		if n&(n-1) == 0 {
			if got := tokens(h); !slices.Equal(got, []int{0, k}) {
				t.Fatalf("Tokens: %v, not 0 and %d", got, k)
			}
		}
		if h.Drop(k) != api.OK || h.Drop(k) != api.ErrHandle {
			t.Fatalf("Drop(%d)", k)
		}
	}
	for bit := range 22 {
		if e := h.Drop(1 + 1048576*(1<<bit-1)); e != api.ErrHandle {
			t.Errorf("generation %d: Drop: error %d", 1<<bit-1, e)
		}
	}
	if got := tokens(h); !slices.Equal(got, []int{0}) || h.Count() != 1 || m.Held() != 32 {
		t.Errorf("Tokens: %v, %d words in use", got, m.Held())
	}
}

// P1

// anything makes calls that follow no short rule, without a look at what they
// return.
func (s *noise) anything(h *handles.Handles, calls int) {
	for range calls {
		k := s.below(24) - 2
		switch s.below(12) {
		case 0:
			k = far()[s.below(len(far()))]
		case 1, 2:
			k += 1048576 * s.below(4)
		case 3, 4, 5:
			for other := range h.Tokens() {
				k = other
				if s.below(4) == 0 {
					break
				}
			}
		}
		switch s.below(7) {
		case 0, 1:
			h.Add(s.ref())
		case 2:
			h.Drop(k)
		case 3:
			h.Get(k)
		case 4:
			h.Set(k, s.ref())
		case 5:
			h.Count()
			tokens(h)
		case 6:
			h.Turn(func(r ref.Ref) ref.Ref { return r + 1 })
		}
	}
}

// Calls end and do not panic, whatever was done to the space, even if it does
// not exist any more.
func TestCallsEndForAllSpaces(t *testing.T) {
	for seed := range noise(400) {
		m := mem.New()
		h, _ := handles.New(m)
		for range 6 {
			seed.anything(h, 30)
			size, _ := m.Size(0)
			for range seed.below(20) {
				m.Write(0, seed.below(size+1), []uint64{0, 1, 2, 3, 5, 8, 1 << 21, 1 << 62, 1 << 63, math.MaxUint64, math.MaxUint64 - 1, uint64(seed.ref())}[seed.below(12)])
			}
			switch seed.below(12) {
			case 0:
				m.Close(0)
			case 1:
				m.Close(0)
				m.Open(seed.below(99))
			case 2:
				m.Grow(0, size+seed.below(99))
			}
			seed.anything(h, 30)
		}
	}
}

// A function may call the handles' methods. What that does is open, but all
// calls end, then and later.
func TestMethodsWithinTurn(t *testing.T) {
	for seed := range noise(100) {
		h, _ := handles.New(mem.New())
		for range 10 {
			seed.anything(h, 20)
			calls := 1 + seed.below(30)
			h.Turn(func(r ref.Ref) ref.Ref {
				seed.anything(h, calls)
				calls = max(0, calls-seed.below(3)) // so that they do not become ever more
				return seed.ref()
			})
		}
	}
}

// A function, and a loop over the tokens, may add a handle each time.
func TestAddsWithoutEnd(t *testing.T) {
	for n := range 20 {
		h, _ := handles.New(mem.New())
		for range n {
			h.Add(5)
		}
		asked := 0
		h.Turn(func(r ref.Ref) ref.Ref {
			if asked++; asked > 1000 {
				t.Fatalf("Turn asks without end")
			}
			h.Add(5)
			return r
		})
		asked = 0
		for range h.Tokens() {
			if asked++; asked > 1000 {
				t.Fatalf("Tokens yields without end")
			}
			h.Add(5)
		}
	}
}

// Turn may be called from within, too.
func TestTurnWithinTurn(t *testing.T) {
	h, _ := handles.New(mem.New())
	h.Add(9)
	h.Add(8)
	asked := 0
	var to func(r ref.Ref) ref.Ref
	to = func(r ref.Ref) ref.Ref {
		asked++
		h.Turn(nil)
		h.Turn(to)
		return r + 10
	}
	h.Turn(to)
	if asked != 2 {
		t.Errorf("asked %d times", asked)
	}
	// The next one has its effect again.
	h.Turn(func(r ref.Ref) ref.Ref { return r + 100 })
	if got := held(h); !slices.Equal(got, []ref.Ref{119, 118}) {
		t.Errorf("handles hold %v", got)
	}
}

// Turn does not panic, though the function does: what that tells nothing of is
// left as it is, and all else is turned.
func TestTurnByAFunctionThatPanics(t *testing.T) {
	p := newPair(t, mem.New())
	p.addAll(t, 11)
	for bit := range 64 {
		p.add(t, 3<<bit)
	}
	broken := func(r ref.Ref) bool { return r%3 == 0 }
	p.got.Turn(func(r ref.Ref) ref.Ref {
		if broken(r) {
			panic("broken")
		}
		return r + 100000
	})
	p.want.turn(func(r ref.Ref) ref.Ref {
		if broken(r) {
			return r
		}
		return r + 100000
	})
	p.check(t, "Turn")
	p.turn(t, func(r ref.Ref) ref.Ref { return r + 1 })
	p.check(t, "Turn")
}

// P2 (rules 3 and 4)

func TestFailedCallsHaveNoEffect(t *testing.T) {
	for seed := range noise(10) {
		m := mem.New()
		p := newPair(t, m)
		look := func() string {
			words, _ := m.Look(0)
			return fmt.Sprint(words, m.Held(), m.High(), m.Spaces(), p.got.Count())
		}
		before, failed := look(), 0
		p.run(t, 100+seed, 800, func(call string, e api.Errno) {
			now := look()
			if e != api.OK || call == "ask" || call == "Get" {
				failed++
				if now != before {
					t.Fatalf("%s, error %d, changed %s to %s", call, e, before, now)
				}
			}
			before = now
		})
		if failed < 100 {
			t.Errorf("%d calls failed only", failed)
		}
	}
}

// The same calls have the same results.
func TestTheSameCalls(t *testing.T) {
	run := func() []string {
		m := mem.New()
		p := newPair(t, m)
		var out []string
		p.run(t, 200, 500, func(string, api.Errno) { out = append(out, p.tell(), counted(m)) })
		return out
	}
	if !slices.Equal(run(), run()) {
		t.Errorf("the same calls differ")
	}
}

// Handles in one Mem, and in others, leave each other alone, and the other
// spaces of their Mem too.
func TestHandlesAreApart(t *testing.T) {
	m := mem.New()
	other, _ := m.Open(5)
	m.Write(other, 4, 77)
	list := []*pair{newPair(t, m), newPair(t, m), newPair(t, mem.New()), newPair(t, m)}
	for i := range 60 {
		for at, p := range list {
			p.run(t, noise(1000*i+at), 15, func(string, api.Errno) {})
			for _, p := range list {
				p.other = p.m.Held() - 4*p.want.room
				p.check(t, "a call on other Handles")
			}
		}
	}
	if words, _ := m.Look(other); !slices.Equal(words, []uint64{0, 0, 0, 0, 77}) {
		t.Errorf("another space: %v", words)
	}
	want := 5
	for _, p := range []*pair{list[0], list[1], list[3]} {
		want += 4 * p.want.room
	}
	if m.Held() != want {
		t.Errorf("%d words in use, not %d", m.Held(), want)
	}
}

// Handles show the chapter's methods and nothing else, and all that they keep
// beside their Mem is a pool, the ends of a list, and whether they turn.
func TestNothingElseIsExported(t *testing.T) {
	of := reflect.TypeFor[*handles.Handles]()
	var got []string
	for i := range of.NumMethod() {
		got = append(got, of.Method(i).Name)
	}
	want := []string{"Add", "Count", "Drop", "Get", "Set", "Tokens", "Turn"}
	if !slices.Equal(got, want) {
		t.Errorf("methods: %v", got)
	}
	kept := []reflect.Type{reflect.TypeFor[*mem.Mem](), reflect.TypeFor[*pool.Pool](), reflect.TypeFor[chain.Chain](), reflect.TypeFor[int](), reflect.TypeFor[bool]()}
	for i := range of.Elem().NumField() {
		f := of.Elem().Field(i)
		if f.IsExported() || f.Anonymous || !slices.Contains(kept, f.Type) {
			t.Errorf("field %s of type %v", f.Name, f.Type)
		}
	}
}
