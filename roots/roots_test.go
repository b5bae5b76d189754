package roots_test

import (
	"fmt"
	"maps"
	"math"
	"reflect"
	"slices"
	"testing"

	"haymow/api"
	"haymow/frames"
	"haymow/handles"
	"haymow/mem"
	"haymow/ref"
	"haymow/roots"
)

// The calls have these signatures exactly, also those that are promoted.
var (
	_ func(*mem.Mem) (*roots.Roots, api.Errno)     = roots.New
	_ func(int) int                                = roots.Slot
	_ func(*roots.Roots, int) (ref.Ref, api.Errno) = (*roots.Roots).Get
	_ func(*roots.Roots, int, ref.Ref) api.Errno   = (*roots.Roots).Set
	_ func(*roots.Roots) (int, api.Errno)          = (*roots.Roots).Add
	_ func(*roots.Roots, int) api.Errno            = (*roots.Roots).Drop
	_ func(*roots.Roots, ref.Ref) (int, api.Errno) = (*roots.Roots).AddWeak
	_ func(*roots.Roots, int) api.Errno            = (*roots.Roots).DropWeak
	_ func(*roots.Roots, int) (ref.Ref, api.Errno) = (*roots.Roots).Weak
	_ func(*roots.Roots) int                       = (*roots.Roots).Globals
	_ func(*roots.Roots) int                       = (*roots.Roots).Weaks
	_ func(*roots.Roots) int                       = (*roots.Roots).Charge
	_ func(*roots.Roots, func(ref.Ref) ref.Ref)    = (*roots.Roots).Turn
	_ func(*roots.Roots, func(ref.Ref) ref.Ref)    = (*roots.Roots).TurnWeak
	_ func(*roots.Roots) int                       = (*roots.Roots).Depth
	_ func(*roots.Roots) int                       = (*roots.Roots).Words
	_ func(*roots.Roots) int                       = (*roots.Roots).Slots
	_ func(*roots.Roots, int) api.Errno            = (*roots.Roots).Push
	_ func(*roots.Roots) api.Errno                 = (*roots.Roots).Pop
)

// The bounds of the layers that the chapter uses.
const (
	mostSpaces = 262144
	mostIds    = 1048576
	mostSlots  = 256
)

// The example of the chapter.
func TestExample(t *testing.T) {
	r, e := roots.New(mem.New())
	if e != api.OK {
		t.Fatalf("New: error %d", e)
	}
	if e := r.Push(2); e != api.OK {
		t.Errorf("Push: error %d", e)
	}
	if k, e := r.Add(); k != 0 || e != api.OK {
		t.Errorf("Add: %d, error %d", k, e)
	}
	if e := r.Set(-2, 5); e != api.OK {
		t.Errorf("Set: error %d", e)
	}
	if x, e := r.Get(-2); x != 5 || e != api.OK {
		t.Errorf("Get: %d, error %d", x, e)
	}
	if n := r.Charge(); n != 8 {
		t.Errorf("Charge: %d", n)
	}
}

// P19.1

func TestNew(t *testing.T) {
	m := mem.New()
	m.Open(100)
	for i := range 5 {
		p := newPair(t, m)
		// A space for the frames and one for either kind of handles, the next
		// ones, without words.
		for at := 3*i + 1; at < 3*i+4; at++ {
			if size, e := m.Size(at); size != 0 || e != api.OK {
				t.Errorf("New: space %d: %d words, error %d", at, size, e)
			}
		}
		if m.Spaces() != 3*i+4 || m.Held() != 100 || m.High() != 100 || m.Steps() != (api.Wide{}) {
			t.Errorf("New: %s", counted(m))
		}
		r := p.got
		if r.Depth() != 0 || r.Words() != 0 || r.Slots() != 0 || r.Globals() != 0 || r.Weaks() != 0 || r.Charge() != 0 {
			t.Errorf("New: %s", p.tell())
		}
		for _, name := range append(far(), -3, -2, -1, 0, 1, 2) {
			p.refused(t, name)
			p.noWeak(t, name)
		}
		p.check(t, "New")
		if m.Steps() != (api.Wide{}) {
			t.Errorf("New: steps %v", m.Steps())
		}
	}
}

// refused fails unless neither a slot nor a global handle has that name.
func (p *pair) refused(t *testing.T, name int) {
	t.Helper()
	want := api.ErrHandle
	if name < 0 {
		want = api.ErrIndex
		if p.want.stack.Depth() == 0 {
			want = api.ErrFrame
		}
	}
	if x, e := p.get(t, name); x != ref.Nil || e != want {
		t.Fatalf("Get(%d): %d, error %d", name, x, e)
	}
	if e := p.set(t, name, 5); e != want {
		t.Fatalf("Set(%d): error %d", name, e)
	}
	if e := p.drop(t, name); e != api.ErrHandle {
		t.Fatalf("Drop(%d): error %d", name, e)
	}
}

// noWeak fails unless no weak handle has that token.
func (p *pair) noWeak(t *testing.T, token int) {
	t.Helper()
	if x, e := p.weak(t, token); x != ref.Nil || e != api.ErrHandle {
		t.Fatalf("Weak(%d): %d, error %d", token, x, e)
	}
	if e := p.dropWeak(t, token); e != api.ErrHandle {
		t.Fatalf("DropWeak(%d): error %d", token, e)
	}
}

func TestNewOfNoMem(t *testing.T) {
	if r, e := roots.New(nil); r != nil || e != api.ErrArg {
		t.Errorf("New(nil): %v, error %d", r, e)
	}
}

// The error of mem.Open, for whichever space there is no room: those that could
// be opened are not there any more, or were not.
func TestNewWithoutASpace(t *testing.T) {
	m := mem.New()
	for range mostSpaces {
		m.Open(0)
	}
	free := []int{4711, 3, 200000, 77777}
	for n := range 3 {
		before := counted(m)
		for range 2 {
			if r, e := roots.New(m); r != nil || e != api.ErrFull {
				t.Errorf("New with %d spaces left: %v, error %d", n, r, e)
			}
		}
		if counted(m) != before {
			t.Errorf("New with %d spaces left: %s, not %s", n, counted(m), before)
		}
		for _, id := range free[:n] {
			if _, e := m.Size(id); e != api.ErrSpace {
				t.Errorf("New with %d spaces left: space %d: error %d", n, id, e)
			}
		}
		m.Close(free[n])
	}
	p := newPair(t, m)
	p.fill(t, 9, 17, 40)
	p.check(t, "New")
	var sizes []int
	for _, id := range free[:3] {
		size, _ := m.Size(id)
		sizes = append(sizes, size)
	}
	slices.Sort(sizes)
	if !slices.Equal(sizes, []int{64, 64, 128}) || m.Spaces() != mostSpaces {
		t.Errorf("New: spaces of %v words, %d of them", sizes, m.Spaces())
	}
	m.Close(free[3])
	m.Close(0)
	m.Close(1)
	newPair(t, m)
	if m.Spaces() != mostSpaces {
		t.Errorf("New: %d spaces", m.Spaces())
	}
}

func TestSlot(t *testing.T) {
	for _, c := range [][2]int{
		{0, -1}, {1, -2}, {2, -3}, {254, -255}, {255, -256}, {256, -257}, {-1, 0}, {-2, 1}, {-1048577, 1048576},
		{2147483647, -2147483648}, {2147483648, -2147483649}, {4294967295, -4294967296},
		{math.MaxInt, math.MinInt}, {math.MaxInt - 1, math.MinInt + 1}, {math.MinInt, math.MaxInt}, {math.MinInt + 1, math.MaxInt - 1},
	} {
		if n := roots.Slot(c[0]); n != c[1] {
			t.Errorf("Slot(%d): %d, not %d", c[0], n, c[1])
		}
	}
	for slot := -3000; slot < 3000; slot++ {
		if n := roots.Slot(slot); n != -1-slot {
			t.Errorf("Slot(%d): %d", slot, n)
		}
	}
	for _, slot := range far() {
		if n := roots.Slot(slot); n != -1-slot || roots.Slot(n) != slot {
			t.Errorf("Slot(%d): %d", slot, n)
		}
	}
}

// Every slot has a name, in frames of each number of slots, and every name has a
// slot.
func TestNamesOfSlots(t *testing.T) {
	for _, n := range []int{0, 1, 2, 3, 7, 8, 30, 31, 127, 128, 255, 256} {
		p := newPair(t, mem.New())
		p.fill(t, 3, 3, 5, n)
		for slot := range n {
			if x, e := p.get(t, -1-slot); x != ref.Ref(101+slot) || e != api.OK {
				t.Errorf("%d slots: Get(%d): %d, error %d", n, -1-slot, x, e)
			}
			if x, e := p.get(t, roots.Slot(slot)); x != ref.Ref(101+slot) || e != api.OK {
				t.Errorf("%d slots: Get(Slot(%d)): %d, error %d", n, slot, x, e)
			}
		}
		for slot := n - 1; slot >= 0; slot-- {
			p.set(t, -1-slot, ref.Ref(4000-slot))
			p.check(t, "Set", -1-slot)
		}
		for _, name := range append(far(), -n-3, -n-2, -n-1) {
			if name < -n {
				p.refused(t, name)
			}
		}
		p.check(t, "Get", n)
	}
}

// A name below 0 is that of a slot of the topmost frame only.
func TestNamesOfTheTopmostFrame(t *testing.T) {
	p := newPair(t, mem.New())
	holds := func(want ...ref.Ref) {
		t.Helper()
		for slot, r := range want {
			if x, e := p.get(t, -1-slot); x != r || e != api.OK {
				t.Errorf("Get(%d): %d, error %d", -1-slot, x, e)
			}
		}
		p.refused(t, -1-len(want))
		p.check(t, "Get")
	}
	holds()
	p.push(t, 3)
	holds(0, 0, 0)
	p.set(t, -1, 7)
	p.set(t, -3, 9)
	holds(7, 0, 9)
	p.push(t, 0)
	holds()
	p.push(t, 2)
	holds(0, 0)
	p.set(t, -1, 8)
	p.set(t, -2, 6)
	holds(8, 6)
	p.pop(t)
	holds()
	p.pop(t)
	holds(7, 0, 9)
	p.pop(t)
	holds()
	if e := p.pop(t); e != api.ErrFrame {
		t.Errorf("Pop: error %d", e)
	}
}

// Any other name is the token of a global handle, with frames and without.
func TestNamesOfGlobals(t *testing.T) {
	for depth := range 3 {
		p := newPair(t, mem.New())
		p.fill(t, 20, 1, make([]int, depth)...)
		for i := range 60 {
			k := i * 7 % 20
			if e := p.set(t, k, ref.Ref(i*i)); e != api.OK {
				t.Errorf("Set(%d): error %d", k, e)
			}
			if x, e := p.get(t, k); x != ref.Ref(i*i) || e != api.OK {
				t.Errorf("Get(%d): %d, error %d", k, x, e)
			}
			p.check(t, "Set", k)
		}
		p.drop(t, 4)
		p.drop(t, 19)
		p.drop(t, 0)
		p.add(t)
		p.check(t, "Drop")
		for _, name := range append(far(), 0, 4, 19, 20, 21, 1048580, 1048595, 2097152) {
			if name != 1048576 {
				p.refused(t, name)
			}
		}
		if x, e := p.get(t, 1048576); x != ref.Nil || e != api.OK {
			t.Errorf("Get of a new one: %d, error %d", x, e)
		}
		if e := p.set(t, 1048576, 77); e != api.OK {
			t.Errorf("Set of a new one: error %d", e)
		}
		p.check(t, "Set")
	}
}

// Names hold whatever they are given, each bit on its own, also what is Bad as a
// reference.
func TestNamesHoldAllWords(t *testing.T) {
	p := newPair(t, mem.New())
	p.fill(t, 3, 0, 1, 3)
	words := []ref.Ref{ref.Nil, math.MaxUint64}
	for bit := range 64 {
		words = append(words, 1<<bit, math.MaxUint64-1<<bit)
	}
	for _, r := range words {
		for _, name := range []int{-2, 1} {
			p.set(t, name, r)
			if x, e := p.get(t, name); x != r || e != api.OK {
				t.Errorf("Get(%d): %d, error %d, not %d", name, x, e, r)
			}
			p.check(t, "Set", r)
			p.set(t, name, 5)
		}
		k := p.addWeak(t, r)
		if x, e := p.weak(t, k); x != r || e != api.OK {
			t.Errorf("Weak(%d): %d, error %d, not %d", k, x, e, r)
		}
		p.check(t, "AddWeak", r)
		p.dropWeak(t, k)
	}
}

// P19.2

// The tokens and counts, written out: both kinds of handles have theirs, and
// neither is of the other kind.
func TestTokens(t *testing.T) {
	r, _ := roots.New(mem.New())
	for _, c := range []struct {
		call           string
		arg            int
		want           int
		e              api.Errno
		globals, weaks int
	}{
		{"DropWeak", 0, 0, api.ErrHandle, 0, 0},
		{"Drop", 0, 0, api.ErrHandle, 0, 0},
		{"Add", 0, 0, api.OK, 1, 0},
		{"Weak", 0, 0, api.ErrHandle, 1, 0},
		{"DropWeak", 0, 0, api.ErrHandle, 1, 0},
		{"Add", 0, 1, api.OK, 2, 0},
		{"Add", 0, 2, api.OK, 3, 0},
		{"AddWeak", 70, 0, api.OK, 3, 1},
		{"AddWeak", 71, 1, api.OK, 3, 2},
		{"Get", 0, 0, api.OK, 3, 2},
		{"Weak", 0, 70, api.OK, 3, 2},
		{"Weak", 1, 71, api.OK, 3, 2},
		{"Weak", 2, 0, api.ErrHandle, 3, 2},
		{"DropWeak", 2, 0, api.ErrHandle, 3, 2},
		{"Set", 1, 0, api.OK, 3, 2},
		{"Get", 1, 900, api.OK, 3, 2},
		{"Weak", 1, 71, api.OK, 3, 2},
		{"Drop", 1, 0, api.OK, 2, 2},
		{"Drop", 1, 0, api.ErrHandle, 2, 2},
		{"Get", 1, 0, api.ErrHandle, 2, 2},
		{"Set", 1, 0, api.ErrHandle, 2, 2},
		{"Weak", 1, 71, api.OK, 2, 2},
		{"AddWeak", 72, 2, api.OK, 2, 3},
		{"Add", 0, 1048577, api.OK, 3, 3},
		{"Get", 1048577, 0, api.OK, 3, 3},
		{"Weak", 1048577, 0, api.ErrHandle, 3, 3},
		{"DropWeak", 1048577, 0, api.ErrHandle, 3, 3},
		{"DropWeak", 0, 0, api.OK, 3, 2},
		{"DropWeak", 0, 0, api.ErrHandle, 3, 2},
		{"Weak", 0, 0, api.ErrHandle, 3, 2},
		{"Get", 0, 0, api.OK, 3, 2},
		{"AddWeak", 0, 1048576, api.OK, 3, 3},
		{"Weak", 1048576, 0, api.OK, 3, 3},
		{"Get", 1048576, 0, api.ErrHandle, 3, 3},
		{"Drop", 1048576, 0, api.ErrHandle, 3, 3},
		{"Drop", -1, 0, api.ErrHandle, 3, 3},
		{"DropWeak", -1, 0, api.ErrHandle, 3, 3},
		{"Weak", -1, 0, api.ErrHandle, 3, 3},
		{"Add", 0, 3, api.OK, 4, 3},
		{"AddWeak", 73, 3, api.OK, 4, 4},
	} {
		n, e := call(r, c.call, c.arg)
		if n != c.want || e != c.e || r.Globals() != c.globals || r.Weaks() != c.weaks {
			t.Errorf("%s(%d): %d, error %d, %d global and %d weak ones", c.call, c.arg, n, e, r.Globals(), r.Weaks())
		}
	}
}

// call makes a call for a name, a token or a reference. Set stores 900.
func call(r *roots.Roots, name string, arg int) (int, api.Errno) {
	var x ref.Ref
	var n int
	var e api.Errno
	switch name {
	case "Add":
		n, e = r.Add()
	case "AddWeak":
		n, e = r.AddWeak(ref.Ref(arg))
	case "Drop":
		e = r.Drop(arg)
	case "DropWeak":
		e = r.DropWeak(arg)
	case "Get":
		x, e = r.Get(arg)
	case "Set":
		e = r.Set(arg, 900)
	case "Weak":
		x, e = r.Weak(arg)
	}
	return n + int(x), e
}

// A new global handle holds nil, also in an entry where another one was.
func TestAddedHandlesHoldNil(t *testing.T) {
	p := newPair(t, mem.New())
	for i := range 70 {
		k := p.add(t)
		if x, e := p.get(t, k); x != ref.Nil || e != api.OK {
			t.Errorf("Add: Get(%d): %d, error %d", k, x, e)
		}
		p.check(t, "Add", i)
		p.set(t, k, math.MaxUint64)
		if i%3 == 0 {
			p.drop(t, k)
		}
	}
}

// Those that are dropped are dropped for ever, those of the other kind stay.
func TestDrop(t *testing.T) {
	p := newPair(t, mem.New())
	p.fill(t, 30, 30, 4)
	for k := range 30 {
		if k%2 == 0 {
			p.drop(t, k)
			p.check(t, "Drop", k)
			p.refused(t, k)
		} else {
			p.dropWeak(t, k)
			p.check(t, "DropWeak", k)
			p.noWeak(t, k)
		}
	}
	for range 40 {
		p.add(t)
		p.addWeak(t, 5)
	}
	for k := range 30 {
		if k%2 == 0 {
			p.refused(t, k)
		} else {
			p.noWeak(t, k)
		}
	}
	p.check(t, "Add")
}

// As many handles of either kind as there can be, and their charge.
func TestMostHandles(t *testing.T) {
	m := mem.New()
	r, _ := roots.New(m)
	r.Push(256)
	for i := range mostIds {
		if k, e := r.Add(); k != i || e != api.OK {
			t.Fatalf("Add: %d, error %d, not %d", k, e, i)
		}
		r.Set(i, ref.Ref(i+1))
	}
	full := func(call string, add func() (int, api.Errno)) {
		t.Helper()
		before := fmt.Sprint(m.Held(), m.High(), r.Globals(), r.Weaks())
		for range 3 {
			if k, e := add(); k != 0 || e != api.ErrFull {
				t.Errorf("%s: %d, error %d", call, k, e)
			}
		}
		if after := fmt.Sprint(m.Held(), m.High(), r.Globals(), r.Weaks()); after != before {
			t.Errorf("%s: %s, not %s", call, after, before)
		}
	}
	full("Add", r.Add)
	if n := r.Charge(); n != 258+4*mostIds {
		t.Errorf("Charge: %d", n)
	}
	for i := range mostIds {
		if k, e := r.AddWeak(ref.Ref(2 * i)); k != i || e != api.OK {
			t.Fatalf("AddWeak: %d, error %d, not %d", k, e, i)
		}
	}
	full("Add", r.Add)
	full("AddWeak", func() (int, api.Errno) { return r.AddWeak(7) })
	if n := r.Charge(); n != 258+8*mostIds || m.Held() != 512+8*mostIds {
		t.Errorf("Charge: %d, %d words in use", n, m.Held())
	}
	for k := range mostIds {
		x, e := r.Get(k)
		y, f := r.Weak(k)
		if x != ref.Ref(k+1) || e != api.OK || y != ref.Ref(2*k) || f != api.OK {
			t.Fatalf("%d: %d, error %d, and %d, error %d", k, x, e, y, f)
		}
	}
	r.Drop(4711)
	full("AddWeak", func() (int, api.Errno) { return r.AddWeak(7) })
	if k, e := r.Add(); k != 1053287 || e != api.OK {
		t.Errorf("Add: %d, error %d", k, e)
	}
	r.DropWeak(11)
	full("Add", r.Add)
	if k, e := r.AddWeak(9); k != 1048587 || e != api.OK {
		t.Errorf("AddWeak: %d, error %d", k, e)
	}
}

// ErrFull where a set of handles has no space any more in which it could grow.
func TestAddWithoutAnEntry(t *testing.T) {
	for closed := range 3 {
		m := mem.New()
		r, _ := roots.New(m)
		m.Close(closed)
		failed := 0
		if k, e := r.Add(); e != api.OK {
			failed++
			if k != 0 || e != api.ErrFull || r.Globals() != 0 {
				t.Errorf("Add: %d, error %d", k, e)
			}
		}
		if k, e := r.AddWeak(5); e != api.OK {
			failed++
			if k != 0 || e != api.ErrFull || r.Weaks() != 0 {
				t.Errorf("AddWeak: %d, error %d", k, e)
			}
		}
		if e := r.Push(0); e != api.OK {
			failed++
			if e != api.ErrFull || r.Depth() != 0 {
				t.Errorf("Push: error %d", e)
			}
		}
		if failed != 1 {
			t.Errorf("without space %d: %d calls fail", closed, failed)
		}
	}
}

// P19.3

// The charge, written out.
func TestCharge(t *testing.T) {
	r, _ := roots.New(mem.New())
	for _, c := range []struct {
		name string
		call func()
		want int
	}{
		{"New", func() {}, 0},
		{"Push", func() { r.Push(0) }, 2},
		{"Push", func() { r.Push(3) }, 7},
		{"Push of no frame", func() { r.Push(257) }, 7},
		{"Add", func() { r.Add() }, 11},
		{"AddWeak", func() { r.AddWeak(9) }, 15},
		{"AddWeak of nothing", func() { r.AddWeak(ref.Nil) }, 19},
		{"Set", func() { r.Set(0, 7); r.Set(-1, 7); r.Set(-2, 7) }, 19},
		{"Add", func() { r.Add() }, 23},
		{"Drop", func() { r.Drop(0) }, 19},
		{"Drop of no handle", func() { r.Drop(0) }, 19},
		{"Pop", func() { r.Pop() }, 14},
		{"DropWeak", func() { r.DropWeak(1) }, 10},
		{"DropWeak of no handle", func() { r.DropWeak(1) }, 10},
		{"Push", func() { r.Push(256) }, 268},
		{"Turn", func() { r.Turn(func(ref.Ref) ref.Ref { return ref.Nil }) }, 268},
		{"TurnWeak", func() { r.TurnWeak(func(ref.Ref) ref.Ref { return ref.Nil }) }, 268},
		{"Pop", func() { r.Pop() }, 10},
		{"Add", func() { r.Add() }, 14},
		{"Pop", func() { r.Pop() }, 12},
		{"Pop of no frame", func() { r.Pop() }, 12},
		{"Drop", func() { r.Drop(1048576); r.Drop(1) }, 4},
		{"DropWeak", func() { r.DropWeak(0) }, 0},
	} {
		c.call()
		if n := r.Charge(); n != c.want {
			t.Errorf("%s: %d, not %d", c.name, n, c.want)
		}
	}
}

// The order, written out: the frames from the topmost one down, then the global
// handles in the order of creation, and no weak ones.
func TestTurnOrder(t *testing.T) {
	r, _ := roots.New(mem.New())
	turn := func(turn func(func(ref.Ref) ref.Ref), add ref.Ref, want ...ref.Ref) {
		t.Helper()
		var met []ref.Ref
		turn(func(x ref.Ref) ref.Ref {
			met = append(met, x)
			return x + add
		})
		if !slices.Equal(met, want) {
			t.Errorf("Turn: %v, not %v", met, want)
		}
	}
	holds := func(name int, want ref.Ref) {
		t.Helper()
		if x, e := r.Get(name); x != want || e != api.OK {
			t.Errorf("Get(%d): %d, error %d", name, x, e)
		}
	}
	for i := range 4 {
		r.Add()
		r.Set(i, ref.Ref(50-i))
		r.AddWeak(ref.Ref(20 - i))
	}
	turn(r.Turn, 100, 50, 49, 48, 47)
	turn(r.TurnWeak, 200, 20, 19, 18, 17)
	r.Push(2)
	r.Set(-1, 9)
	r.Set(-2, 8)
	r.Push(3)
	r.Set(-1, 7)
	r.Set(-3, 5)
	turn(r.Turn, 10, 7, 5, 9, 8, 150, 149, 148, 147)
	turn(r.TurnWeak, 10, 220, 219, 218, 217)
	holds(-1, 17)
	holds(-2, ref.Nil)
	holds(-3, 15)
	holds(3, 157)
	r.Drop(0)
	r.Add()
	r.Set(1048576, 1)
	r.Set(2, ref.Nil)
	r.DropWeak(1)
	r.AddWeak(2)
	r.AddWeak(ref.Nil)
	r.Set(-2, 3)
	turn(r.Turn, 0, 17, 3, 15, 19, 18, 159, 157, 1)
	turn(r.TurnWeak, 0, 230, 228, 227, 2)
	r.Pop()
	turn(r.Turn, 1, 19, 18, 159, 157, 1)
	r.Pop()
	turn(r.Turn, 1, 160, 158, 2)
	turn(r.TurnWeak, 1, 230, 228, 227, 2)
	for k := 1; k < 4; k++ {
		r.Drop(k)
	}
	r.Drop(1048576)
	turn(r.Turn, 1)
	turn(r.TurnWeak, 1, 231, 229, 228, 3)
}

// Roots of all kinds and few of them, turned to all words: to nil, which the
// next Turn skips, and to what is Bad as a reference.
func TestTurnToAllWords(t *testing.T) {
	p := newPair(t, mem.New())
	p.fill(t, 2, 2, 2, 1)
	p.push(t, 1)
	p.add(t)
	p.addWeak(t, ref.Nil)
	for bit := range 64 {
		for _, to := range []func(ref.Ref) ref.Ref{
			func(r ref.Ref) ref.Ref { return 1<<bit | r },
			func(r ref.Ref) ref.Ref { return ^r },
			func(r ref.Ref) ref.Ref { return (r & 1) * 1 << bit },
			func(ref.Ref) ref.Ref { return 5 },
			func(ref.Ref) ref.Ref { return ref.Nil },
		} {
			p.turn(t, to)
			p.check(t, "Turn", bit)
			p.turnWeak(t, to)
			p.check(t, "TurnWeak", bit)
		}
		for _, name := range []int{-1, 0, 1} {
			p.set(t, name, ref.Ref(7-name))
		}
		p.dropWeak(t, p.addWeak(t, 6))
		p.addWeak(t, 7)
	}
}

// A Turn of one kind of handles leaves those of the other kind as they are.
func TestTurnsAreApart(t *testing.T) {
	p := newPair(t, mem.New())
	p.fill(t, 8, 8, 3, 0, 2)
	p.turn(t, func(r ref.Ref) ref.Ref { return r + 1000 })
	for k := range 8 {
		if x, _ := p.weak(t, k); x != ref.Ref(301+k) {
			t.Errorf("Turn: Weak(%d): %d", k, x)
		}
		if x, _ := p.get(t, k); x != ref.Ref(1201+k) {
			t.Errorf("Turn: Get(%d): %d", k, x)
		}
	}
	p.turnWeak(t, func(r ref.Ref) ref.Ref { return r + 5000 })
	for k := range 8 {
		if x, _ := p.weak(t, k); x != ref.Ref(5301+k) {
			t.Errorf("TurnWeak: Weak(%d): %d", k, x)
		}
		if x, _ := p.get(t, k); x != ref.Ref(1201+k) {
			t.Errorf("TurnWeak: Get(%d): %d", k, x)
		}
	}
	p.check(t, "TurnWeak")
}

func TestTurnOfNothing(t *testing.T) {
	never := func(call string) func(ref.Ref) ref.Ref {
		return func(r ref.Ref) ref.Ref {
			t.Errorf("%s gave %d", call, r)
			return 5
		}
	}
	for n := range 4 {
		p := newPair(t, mem.New())
		p.fill(t, n, n, n, n)
		p.ask(t) // Turn of nil
		p.check(t, "Turn of nil")
		for k := range n {
			p.set(t, k, ref.Nil)
			p.set(t, -1-k, ref.Nil)
			p.dropWeak(t, k)
			p.addWeak(t, ref.Nil)
		}
		p.pop(t)
		for k := range n {
			p.set(t, -1-k, ref.Nil)
		}
		p.got.Turn(never("Turn"))
		p.got.TurnWeak(never("TurnWeak"))
		p.check(t, "Turn")
	}
}

// Long runs of calls, each of which has the result, the steps and the effect of
// those that it is to perform.
func TestRuns(t *testing.T) {
	seen := map[string]int{}
	most := [3]int{}
	for seed := range noise(30) {
		p := newPair(t, mem.New())
		p.run(t, seed, 700, func(call string, e api.Errno) {
			seen[fmt.Sprint(call, e)]++
			for i, n := range []int{p.got.Depth(), p.got.Globals(), p.got.Weaks()} {
				most[i] = max(most[i], n)
			}
			p.check(t, call)
		})
	}
	for _, call := range []string{"Push0", "Push1", "Pop0", "Pop33", "Add0", "Drop0", "Drop30", "AddWeak0", "DropWeak0", "DropWeak30",
		"Weak0", "Weak30", "Get0", "Get30", "Get32", "Get33", "Set0", "Set30", "Set32", "Set33", "Turn0", "TurnWeak0", "ask0"} {
		if seen[call] < 20 {
			t.Errorf("%s %d times only", call, seen[call])
		}
	}
	if min(most[0], most[1], most[2]) < 6 {
		t.Errorf("%v frames and handles only", most)
	}
}

// The greatest stack of frames is pushed by the promoted methods too.
func TestMostFrames(t *testing.T) {
	r, _ := roots.New(mem.New())
	pushed := 0
	for r.Push(256) == api.OK {
		pushed++
	}
	if pushed != 16256 || r.Depth() != 16256 || r.Words() != 258*16256 || r.Charge() != 258*16256 || r.Slots() != 256 {
		t.Errorf("%d frames: Depth %d, Words %d, Charge %d", pushed, r.Depth(), r.Words(), r.Charge())
	}
	if e := r.Push(256); e != api.ErrFull {
		t.Errorf("Push: error %d", e)
	}
	r.Add()
	if n := r.Charge(); n != 258*16256+4 {
		t.Errorf("Charge: %d", n)
	}
}

// All that roots hold is in the Mem: where the words of a space are put back as
// they were, so is what the Roots tell.
func TestAllIsInTheMem(t *testing.T) {
	p := newPair(t, mem.New())
	p.fill(t, 7, 5, 3, 2)
	p.drop(t, 3)
	p.dropWeak(t, 0)
	p.addWeak(t, 9)
	for space := range 3 {
		words, _ := p.m.Look(space)
		p.check(t, "Look", space)
		p.m.Zero(space, 0, len(words))
		if p.tell() == p.want.tell() {
			t.Errorf("%s with an empty space %d", p.tell(), space)
		}
		for at, w := range words {
			p.m.Write(space, at, w)
		}
		p.check(t, "Write", space)
	}
}

// P19.4

// names is what each name and each weak handle holds, noted outside: only a Set
// of a name, and a Turn, changes what is noted of one that there is.
type names struct {
	frames  []map[int]ref.Ref
	globals map[int]ref.Ref
	weaks   map[int]ref.Ref
}

// top returns what the slots of the topmost frame hold, by their names.
func (n *names) top() map[int]ref.Ref {
	if len(n.frames) == 0 {
		return nil
	}
	return n.frames[len(n.frames)-1]
}

// of returns where it is noted what a name holds.
func (n *names) of(name int) map[int]ref.Ref {
	if name < 0 {
		return n.top()
	}
	return n.globals
}

// check fails unless all names hold what is noted of them.
func (n *names) check(t *testing.T, r *roots.Roots, call string) {
	t.Helper()
	for _, of := range []map[int]ref.Ref{n.top(), n.globals} {
		for name, want := range of {
			if x, e := r.Get(name); x != want || e != api.OK {
				t.Fatalf("%s: Get(%d): %d, error %d, not %d", call, name, x, e, want)
			}
		}
	}
	for token, want := range n.weaks {
		if x, e := r.Weak(token); x != want || e != api.OK {
			t.Fatalf("%s: Weak(%d): %d, error %d, not %d", call, token, x, e, want)
		}
	}
}

// pick returns a name that is noted, or now and then none.
func (s *noise) pick(of map[int]ref.Ref) int {
	if len(of) == 0 || s.below(9) == 0 {
		return s.below(20) - 10
	}
	return slices.Sorted(maps.Keys(of))[s.below(len(of))]
}

// turnAll notes what a Turn does.
func turnAll(to func(ref.Ref) ref.Ref, all ...map[int]ref.Ref) {
	for _, of := range all {
		for name, r := range of {
			if r != 0 {
				of[name] = to(r)
			}
		}
	}
}

// change makes a call and notes what it is to change. Which names there are then
// is told by what the calls return.
func (n *names) change(r *roots.Roots, s *noise) string {
	x := s.ref()
	to := func(r ref.Ref) ref.Ref { return r ^ x }
	switch s.below(11) {
	case 0:
		slots := s.below(7) - 1
		if r.Push(slots) == api.OK {
			of := map[int]ref.Ref{}
			for slot := range slots {
				of[-1-slot] = ref.Nil
			}
			n.frames = append(n.frames, of)
		}
		return "Push"
	case 1:
		if r.Pop() == api.OK {
			n.frames = n.frames[:len(n.frames)-1]
		}
		return "Pop"
	case 2:
		if k, e := r.Add(); e == api.OK {
			n.globals[k] = ref.Nil
		}
		return "Add"
	case 3:
		if k := s.pick(n.globals); r.Drop(k) == api.OK {
			delete(n.globals, k)
		}
		return "Drop"
	case 4:
		if k, e := r.AddWeak(x); e == api.OK {
			n.weaks[k] = x
		}
		return "AddWeak"
	case 5:
		if k := s.pick(n.weaks); r.DropWeak(k) == api.OK {
			delete(n.weaks, k)
		}
		return "DropWeak"
	case 6:
		if s.below(5) == 0 {
			r.Turn(to)
			turnAll(to, append(slices.Clone(n.frames), n.globals)...)
		}
		return "Turn"
	case 7:
		r.TurnWeak(to)
		turnAll(to, n.weaks)
		return "TurnWeak"
	}
	k := s.pick(n.of(s.below(2) - 1))
	if r.Set(k, x) == api.OK {
		n.of(k)[k] = x
	}
	return "Set"
}

func TestNamesAreChangedBySetAndTurnOnly(t *testing.T) {
	for seed := range noise(20) {
		r, _ := roots.New(mem.New())
		n := names{globals: map[int]ref.Ref{}, weaks: map[int]ref.Ref{}}
		most := 0
		for range 2000 {
			n.check(t, r, n.change(r, &seed))
			most = max(most, len(n.globals)+len(n.weaks)+len(n.top()))
		}
		if most < 15 {
			t.Errorf("%d names only", most)
		}
	}
}

// Handles and frames, each many, leave what the others hold as it is.
func TestManyNames(t *testing.T) {
	const many = 20000
	r, _ := roots.New(mem.New())
	for k := range many {
		r.Add()
		r.Set(k, ref.Ref(k+1))
		r.AddWeak(ref.Ref(2*k + 2))
		r.Push(k % 5)
		for slot := range k % 5 {
			r.Set(-1-slot, ref.Ref(k*10+slot))
		}
	}
	for k := many - 1; k >= 0; k-- {
		for slot := range k % 5 {
			if x, e := r.Get(-1 - slot); x != ref.Ref(k*10+slot) || e != api.OK {
				t.Fatalf("frame %d: Get(%d): %d, error %d", k, -1-slot, x, e)
			}
		}
		r.Pop()
		if x, e := r.Get(k); x != ref.Ref(k+1) || e != api.OK {
			t.Fatalf("Get(%d): %d, error %d", k, x, e)
		}
		if x, e := r.Weak(k); x != ref.Ref(2*k+2) || e != api.OK {
			t.Fatalf("Weak(%d): %d, error %d", k, x, e)
		}
	}
}

// P1

// anything makes calls that follow no short rule, without a look at what they
// return.
func (s *noise) anything(r *roots.Roots, calls int) {
	for range calls {
		k := s.below(24) - 8
		switch s.below(8) {
		case 0:
			k = far()[s.below(len(far()))]
		case 1:
			k += mostIds * s.below(4)
		}
		switch s.below(14) {
		case 0:
			r.Push(k)
		case 1:
			r.Pop()
		case 2, 3:
			r.Add()
		case 4:
			r.Drop(k)
		case 5:
			r.AddWeak(s.ref())
		case 6:
			r.DropWeak(k)
		case 7:
			r.Weak(k)
		case 8:
			r.Get(k)
		case 9:
			r.Set(k, s.ref())
		case 10:
			r.Set(roots.Slot(k), s.ref())
		case 11:
			r.Depth()
			r.Slots()
			r.Charge()
		case 12:
			r.Turn(func(x ref.Ref) ref.Ref { return x + 1 })
		case 13:
			r.TurnWeak(func(x ref.Ref) ref.Ref { return x + 1 })
		}
	}
}

// Calls end and do not panic, whatever was done to the spaces, even if they do
// not exist any more.
func TestCallsEndForAllSpaces(t *testing.T) {
	for seed := range noise(400) {
		m := mem.New()
		r, _ := roots.New(m)
		for range 6 {
			seed.anything(r, 30)
			space := seed.below(3)
			size, _ := m.Size(space)
			for range seed.below(20) {
				m.Write(space, seed.below(size+1), []uint64{0, 1, 2, 3, 5, 8, 1 << 21, 1 << 62, 1 << 63, math.MaxUint64, math.MaxUint64 - 1, uint64(seed.ref())}[seed.below(12)])
			}
			switch seed.below(12) {
			case 0:
				m.Close(space)
			case 1:
				m.Close(space)
				m.Open(seed.below(99))
			case 2:
				m.Grow(space, size+seed.below(99))
			}
			seed.anything(r, 30)
		}
	}
}

// A function may call the methods of the roots. What that does is open, but all
// calls end, then and later.
func TestMethodsWithinTurn(t *testing.T) {
	for seed := range noise(60) {
		r, _ := roots.New(mem.New())
		for range 8 {
			seed.anything(r, 20)
			calls := 1 + seed.below(20)
			to := func(ref.Ref) ref.Ref {
				seed.anything(r, calls)
				calls = max(0, calls-seed.below(3)) // so that they do not become ever more
				return seed.ref()
			}
			r.Turn(to)
			r.TurnWeak(to)
		}
	}
}

// Both may be called from within, too.
func TestTurnWithinTurn(t *testing.T) {
	p := newPair(t, mem.New())
	p.fill(t, 3, 3, 2, 2)
	asked := 0
	var to func(x ref.Ref) ref.Ref
	to = func(x ref.Ref) ref.Ref {
		if asked++; asked > 10000 {
			t.Fatalf("Turn asks without end")
		}
		p.got.Turn(nil)
		p.got.Turn(to)
		p.got.TurnWeak(to)
		return x
	}
	p.got.Turn(to)
	p.got.TurnWeak(to)
	p.check(t, "Turn")
	// The next ones have their effect again.
	p.turn(t, func(x ref.Ref) ref.Ref { return x + 100 })
	p.turnWeak(t, func(x ref.Ref) ref.Ref { return x + 100 })
	p.check(t, "Turn")
}

// Turn and TurnWeak do not panic, though their function does: what that tells
// nothing of is left as it is, and all else is turned.
func TestTurnByAFunctionThatPanics(t *testing.T) {
	p := newPair(t, mem.New())
	p.fill(t, 8, 8, 8, 5)
	calm := func(x ref.Ref) ref.Ref {
		if x%3 == 0 {
			return x
		}
		return x + 100000
	}
	broken := func(x ref.Ref) ref.Ref {
		if x%3 == 0 {
			panic("broken")
		}
		return calm(x)
	}
	p.got.Turn(broken)
	p.want.stack.Turn(calm)
	p.want.globals.Turn(calm)
	p.check(t, "Turn")
	p.got.TurnWeak(broken)
	p.want.weaks.Turn(calm)
	p.check(t, "TurnWeak")
}

// P2 (rules 3 and 4)

func TestFailedCallsHaveNoEffect(t *testing.T) {
	for seed := range noise(10) {
		m := mem.New()
		p := newPair(t, m)
		look := func() string {
			out := fmt.Sprint(m.Held(), m.High(), m.Spaces(), p.got.Depth(), p.got.Globals(), p.got.Weaks(), p.got.Charge())
			for space := range 3 {
				words, _ := m.Look(space)
				out += fmt.Sprint(words)
			}
			return out
		}
		before, failed := look(), 0
		p.run(t, 100+seed, 800, func(call string, e api.Errno) {
			now := look()
			if e != api.OK || call == "ask" || call == "Get" || call == "Weak" {
				failed++
				if now != before {
					t.Fatalf("%s, error %d, changed %s to %s", call, e, before, now)
				}
			}
			before = now
		})
		if failed < 100 {
			t.Errorf("%d calls failed only", failed)
		}
	}
}

// The same calls have the same results.
func TestTheSameCalls(t *testing.T) {
	run := func() []string {
		m := mem.New()
		p := newPair(t, m)
		var out []string
		p.run(t, 200, 500, func(string, api.Errno) { out = append(out, p.tell(), counted(m)) })
		return out
	}
	if !slices.Equal(run(), run()) {
		t.Errorf("the same calls differ")
	}
}

// Roots in one Mem, and in others, leave each other alone, and the other spaces
// of their Mem too.
func TestRootsAreApart(t *testing.T) {
	m := mem.New()
	other, _ := m.Open(5)
	m.Write(other, 4, 77)
	list := []*pair{newPair(t, m), newPair(t, m), newPair(t, mem.New()), newPair(t, m)}
	for i := range 40 {
		for at, p := range list {
			p.run(t, noise(1000*i+at), 15, func(string, api.Errno) {})
			for _, p := range list {
				p.other = p.m.Held() - p.want.m.Held()
				p.check(t, "a call on other Roots")
			}
		}
	}
	if words, _ := m.Look(other); !slices.Equal(words, []uint64{0, 0, 0, 0, 77}) {
		t.Errorf("another space: %v", words)
	}
	want := 5
	for _, p := range []*pair{list[0], list[1], list[3]} {
		want += p.want.m.Held()
	}
	if m.Held() != want {
		t.Errorf("%d words in use, not %d", m.Held(), want)
	}
}

// Roots show the chapter's methods and those that are promoted, and nothing
// else, and all that they keep is frames, which they embed, and handles.
func TestNothingElseIsExported(t *testing.T) {
	of := reflect.TypeFor[*roots.Roots]()
	var got []string
	for i := range of.NumMethod() {
		got = append(got, of.Method(i).Name)
	}
	want := []string{"Add", "AddWeak", "Charge", "Depth", "Drop", "DropWeak", "Get", "Globals", "Pop", "Push", "Set", "Slots", "Turn", "TurnWeak", "Weak", "Weaks", "Words"}
	if !slices.Equal(got, want) {
		t.Errorf("methods: %v", got)
	}
	for i := range of.Elem().NumField() {
		f := of.Elem().Field(i)
		switch f.Type {
		case reflect.TypeFor[*frames.Frames]():
			if !f.Anonymous || f.Name != "Frames" {
				t.Errorf("the frames are field %s", f.Name)
			}
		case reflect.TypeFor[*handles.Handles]():
			if f.Anonymous || f.IsExported() {
				t.Errorf("handles are field %s", f.Name)
			}
		default:
			t.Errorf("field %s of type %v", f.Name, f.Type)
		}
	}
}
