package roots_test

import (
	"fmt"
	"math"
	"slices"
	"strings"
	"testing"

	"haymow/api"
	"haymow/frames"
	"haymow/handles"
	"haymow/mem"
	"haymow/meter"
	"haymow/ref"
	"haymow/roots"
)

// noise goes through numbers that follow no short rule, the same ones each time.
type noise uint64

func (s *noise) below(n int) int {
	*s = *s*6364136223846793005 + 1442695040888963407
	return int(uint64(*s)>>33) % n
}

// ref returns a reference, at times nil, and as often a Bad one.
func (s *noise) ref() ref.Ref {
	switch s.below(8) {
	case 0:
		return ref.Nil
	case 1:
		s.below(1)
		return ref.Ref(uint64(*s) ^ uint64(*s)>>31)
	}
	return ref.Ref(1 + s.below(2*mostIds))
}

// far are names, tokens and numbers of slots that few Roots or none ever have,
// of which some would be those of others when their upper bits are dropped, or
// when their sign is.
func far() []int {
	out := []int{math.MinInt, math.MinInt + 1, math.MinInt + 2, math.MinInt + 5, math.MaxInt - 5, math.MaxInt - 2, math.MaxInt - 1, math.MaxInt}
	for bit := 8; bit < 63; bit++ {
		p := 1 << bit
		out = append(out, p-1, p, p+1, p+2, -p-2, -p-1, -p, 1-p, 2-p)
	}
	return out
}

// parts is what Roots consist of, by the layers below, in a Mem of its own.
type parts struct {
	m       *mem.Mem
	stack   *frames.Frames
	globals *handles.Handles
	weaks   *handles.Handles
	tokens  []int // all that were ever given, of either kind
}

func newParts() parts {
	m := mem.New()
	stack, _ := frames.New(m)
	globals, _ := handles.New(m)
	weaks, _ := handles.New(m)
	return parts{m: m, stack: stack, globals: globals, weaks: weaks}
}

// get returns what a name holds.
func (w *parts) get(name int) (ref.Ref, api.Errno) {
	for slot := range mostSlots {
		if name == -(slot + 1) {
			return w.stack.Get(slot)
		}
	}
	if name < 0 { // whatever there is, no frame has that slot
		return w.stack.Get(mostSlots)
	}
	return w.globals.Get(name)
}

// set makes a name hold r.
func (w *parts) set(name int, r ref.Ref) api.Errno {
	for slot := range mostSlots {
		if name == -(slot + 1) {
			return w.stack.Set(slot, r)
		}
	}
	if name < 0 {
		return w.stack.Set(mostSlots, r)
	}
	return w.globals.Set(name, r)
}

// asked are the names and tokens that tell most: of the slots that there are and
// of one more, of all handles that there ever were, and of their neighbours.
func (w *parts) asked() []int {
	out := []int{0, mostIds}
	for _, k := range w.tokens {
		out = append(out, k, k+1, k+mostIds)
	}
	for slot := range w.stack.Slots() + 1 {
		out = append(out, -slot-1)
	}
	slices.Sort(out)
	return slices.Compact(out)
}

// tell is all that Roots should tell, beside their steps.
func (w *parts) tell() string {
	var b strings.Builder
	globals, weaks := w.globals.Count(), w.weaks.Count()
	fmt.Fprint(&b, w.stack.Depth(), w.stack.Words(), w.stack.Slots(), w.m.Held(), globals, weaks)
	fmt.Fprint(&b, " ", w.stack.Words()+4*globals+4*weaks, held(w.stack.Turn), held(w.globals.Turn), held(w.weaks.Turn))
	for _, k := range w.asked() {
		r, e := w.get(k)
		x, f := w.weaks.Get(k)
		fmt.Fprint(&b, " ", r, e, x, f)
	}
	return b.String()
}

// held returns all that a Turn meets, in its order.
func held(turn func(to func(ref.Ref) ref.Ref)) []ref.Ref {
	var out []ref.Ref
	turn(func(r ref.Ref) ref.Ref {
		out = append(out, r)
		return r
	})
	return out
}

// pair is Roots and the parts on which the same calls are made.
type pair struct {
	m     *mem.Mem
	got   *roots.Roots
	want  parts
	other int // words of the Mem that are in use beside those of the Roots
}

// newPair makes Roots in m.
func newPair(t *testing.T, m *mem.Mem) *pair {
	t.Helper()
	other := m.Held()
	r, e := roots.New(m)
	if e != api.OK || r == nil {
		t.Fatalf("New: %v, error %d", r, e)
	}
	return &pair{m: m, got: r, want: newParts(), other: other}
}

// tell is all that Roots tell, beside their steps.
func (p *pair) tell() string {
	r := p.got
	var b strings.Builder
	fmt.Fprint(&b, r.Depth(), r.Words(), r.Slots(), p.m.Held()-p.other, r.Globals(), r.Weaks())
	all, slots := held(r.Turn), held(r.Frames.Turn)
	if n := len(slots); n > len(all) || !slices.Equal(all[:n], slots) {
		return fmt.Sprint("Turn of the frames ", slots, ", of all ", all)
	}
	fmt.Fprint(&b, " ", r.Charge(), slots, all[len(slots):], held(r.TurnWeak))
	for _, k := range p.want.asked() {
		x, e := r.Get(k)
		y, f := r.Weak(k)
		fmt.Fprint(&b, " ", x, e, y, f)
	}
	return b.String()
}

func (p *pair) check(t *testing.T, call string, args ...any) {
	t.Helper()
	if got, want := p.tell(), p.want.tell(); got != want {
		t.Fatalf("%s%v:\n%s, not\n%s", call, args, got, want)
	}
}

// taken returns the reads and the writes of a call, and how many words more are
// in use after it.
func taken(m *mem.Mem, call func()) [3]int {
	reads, writes, held := m.Of(meter.Reads), m.Of(meter.Writes), m.Held()
	call()
	return [3]int{int(m.Of(meter.Reads).Lo - reads.Lo), int(m.Of(meter.Writes).Lo - writes.Lo), m.Held() - held}
}

// result is what a call returns, numbers and references alike.
type result struct {
	n uint64
	e api.Errno
}

func of[T int | ref.Ref](n T, e api.Errno) result { return result{uint64(n), e} }

// same fails unless a call has the result of the one that it is to perform, and
// takes its steps.
func (p *pair) same(t *testing.T, got, want func() result, name string, args ...any) result {
	t.Helper()
	var x, y result
	a := taken(p.m, func() { x = got() })
	b := taken(p.want.m, func() { y = want() })
	if x != y || a != b {
		t.Fatalf("%s%v: %v of steps and words %v, not %v of %v", name, args, x, a, y, b)
	}
	return x
}

func (p *pair) push(t *testing.T, slots int) api.Errno {
	t.Helper()
	return p.same(t,
		func() result { return of(0, p.got.Push(slots)) },
		func() result { return of(0, p.want.stack.Push(slots)) }, "Push", slots).e
}

func (p *pair) pop(t *testing.T) api.Errno {
	t.Helper()
	return p.same(t,
		func() result { return of(0, p.got.Pop()) },
		func() result { return of(0, p.want.stack.Pop()) }, "Pop").e
}

func (p *pair) get(t *testing.T, name int) (ref.Ref, api.Errno) {
	t.Helper()
	x := p.same(t,
		func() result { return of(p.got.Get(name)) },
		func() result { return of(p.want.get(name)) }, "Get", name)
	return ref.Ref(x.n), x.e
}

func (p *pair) set(t *testing.T, name int, r ref.Ref) api.Errno {
	t.Helper()
	return p.same(t,
		func() result { return of(0, p.got.Set(name, r)) },
		func() result { return of(0, p.want.set(name, r)) }, "Set", name, r).e
}

func (p *pair) add(t *testing.T) int {
	t.Helper()
	x := p.same(t,
		func() result { return of(p.got.Add()) },
		func() result { return of(p.want.globals.Add(0)) }, "Add")
	p.want.tokens = append(p.want.tokens, int(x.n))
	return int(x.n)
}

func (p *pair) drop(t *testing.T, token int) api.Errno {
	t.Helper()
	return p.same(t,
		func() result { return of(0, p.got.Drop(token)) },
		func() result { return of(0, p.want.globals.Drop(token)) }, "Drop", token).e
}

func (p *pair) addWeak(t *testing.T, r ref.Ref) int {
	t.Helper()
	x := p.same(t,
		func() result { return of(p.got.AddWeak(r)) },
		func() result { return of(p.want.weaks.Add(r)) }, "AddWeak", r)
	p.want.tokens = append(p.want.tokens, int(x.n))
	return int(x.n)
}

func (p *pair) dropWeak(t *testing.T, token int) api.Errno {
	t.Helper()
	return p.same(t,
		func() result { return of(0, p.got.DropWeak(token)) },
		func() result { return of(0, p.want.weaks.Drop(token)) }, "DropWeak", token).e
}

func (p *pair) weak(t *testing.T, token int) (ref.Ref, api.Errno) {
	t.Helper()
	x := p.same(t,
		func() result { return of(p.got.Weak(token)) },
		func() result { return of(p.want.weaks.Get(token)) }, "Weak", token)
	return ref.Ref(x.n), x.e
}

// turns fails unless a Turn gives its function the same references as others do
// one behind the other, and takes their steps.
func (p *pair) turns(t *testing.T, name string, to func(ref.Ref) ref.Ref, got func(func(ref.Ref) ref.Ref), want ...func(func(ref.Ref) ref.Ref)) {
	t.Helper()
	var met, due []ref.Ref
	a := taken(p.m, func() {
		got(func(r ref.Ref) ref.Ref {
			met = append(met, r)
			return to(r)
		})
	})
	b := taken(p.want.m, func() {
		for _, turn := range want {
			turn(func(r ref.Ref) ref.Ref {
				due = append(due, r)
				return to(r)
			})
		}
	})
	if !slices.Equal(met, due) || a != b {
		t.Fatalf("%s: %v of steps %v, not %v of %v", name, met, a, due, b)
	}
}

func (p *pair) turn(t *testing.T, to func(ref.Ref) ref.Ref) {
	t.Helper()
	p.turns(t, "Turn", to, p.got.Turn, p.want.stack.Turn, p.want.globals.Turn)
}

func (p *pair) turnWeak(t *testing.T, to func(ref.Ref) ref.Ref) {
	t.Helper()
	p.turns(t, "TurnWeak", to, p.got.TurnWeak, p.want.weaks.Turn)
}

// ask fails unless the calls that tell of all roots are right and take no step.
func (p *pair) ask(t *testing.T) {
	t.Helper()
	r, w := p.got, p.want
	for _, c := range []struct {
		name      string
		got, want func() int
	}{
		{"Depth", r.Depth, w.stack.Depth},
		{"Words", r.Words, w.stack.Words},
		{"Slots", r.Slots, w.stack.Slots},
		{"Globals", r.Globals, w.globals.Count},
		{"Weaks", r.Weaks, w.weaks.Count},
		{"Charge", r.Charge, func() int { return w.stack.Words() + 4*w.globals.Count() + 4*w.weaks.Count() }},
		{"Turn of nil", func() int { r.Turn(nil); return 0 }, func() int { return 0 }},
		{"TurnWeak of nil", func() int { r.TurnWeak(nil); return 0 }, func() int { return 0 }},
	} {
		p.same(t, func() result { return of(c.got(), api.OK) }, func() result { return of(c.want(), api.OK) }, c.name)
	}
}

// fill gives the Roots frames, and handles of either kind, that hold references
// of their own: slots those from 101 on, the topmost frame first, global handles
// those from 201 on, and weak ones those from 301 on.
func (p *pair) fill(t *testing.T, globals, weaks int, slots ...int) {
	t.Helper()
	next := ref.Ref(101)
	for _, n := range slots {
		next += ref.Ref(n)
	}
	for _, n := range slots {
		p.push(t, n)
		next -= ref.Ref(n)
		for slot := range n {
			p.set(t, -1-slot, next+ref.Ref(slot))
		}
	}
	for i := range globals {
		p.set(t, p.add(t), ref.Ref(201+i))
	}
	for i := range weaks {
		p.addWeak(t, ref.Ref(301+i))
	}
}

// name returns one that there is, was, will be, or is not.
func (p *pair) name(s *noise) int {
	switch n := s.below(20); {
	case n < 8:
		return -1 - s.below(p.want.stack.Slots()+1)
	case n < 10:
		list := p.want.asked()
		return list[s.below(len(list))]
	case n < 11:
		return far()[s.below(len(far()))]
	}
	if len(p.want.tokens) == 0 {
		return s.below(6) - 3
	}
	return p.want.tokens[s.below(len(p.want.tokens))]
}

// run makes calls that follow no short rule, of which some fail, and tells
// check of each. Frames and handles become more, then fewer, and so on.
func (p *pair) run(t *testing.T, seed noise, calls int, check func(call string, e api.Errno)) {
	t.Helper()
	for i := range calls {
		call, e := p.one(t, &seed, i/50%2 == 0)
		check(call, e)
	}
}

// one makes one of these calls.
func (p *pair) one(t *testing.T, seed *noise, more bool) (call string, e api.Errno) {
	t.Helper()
	name, r := p.name(seed), seed.ref()
	switch n := seed.below(40); {
	case n < 3, n < 5 && more:
		return "Push", p.push(t, seed.below(9)-1)
	case n < 7:
		return "Pop", p.pop(t)
	case n < 9, n < 11 && more:
		p.add(t)
		return "Add", api.OK
	case n < 14:
		return "Drop", p.drop(t, name)
	case n < 16, n < 18 && more:
		p.addWeak(t, r)
		return "AddWeak", api.OK
	case n < 21:
		return "DropWeak", p.dropWeak(t, name)
	case n < 24:
		_, e = p.weak(t, name)
		return "Weak", e
	case n < 27:
		_, e = p.get(t, name)
		return "Get", e
	case n < 36:
		return "Set", p.set(t, name, r)
	case n < 37:
		p.turn(t, func(x ref.Ref) ref.Ref { return x ^ r })
		return "Turn", api.OK
	case n < 38:
		p.turnWeak(t, func(x ref.Ref) ref.Ref { return x ^ r })
		return "TurnWeak", api.OK
	}
	p.ask(t)
	return "ask", api.OK
}

// counted is what a Mem tells beside its words.
func counted(m *mem.Mem) string {
	return fmt.Sprint(m.Of(meter.Reads), m.Of(meter.Writes), m.Held(), m.High(), m.Spaces())
}
