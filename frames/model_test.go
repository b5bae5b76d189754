package frames_test

import (
	"fmt"
	"math"
	"slices"
	"strings"
	"testing"

	"haymow/api"
	"haymow/frames"
	"haymow/mem"
	"haymow/meter"
	"haymow/ref"
)

// noise goes through numbers that follow no short rule, the same ones each time.
type noise uint64

func (s *noise) below(n int) int {
	*s = *s*6364136223846793005 + 1442695040888963407
	return int(uint64(*s)>>33) % n
}

// ref returns a reference, at times nil, and as often a Bad one.
func (s *noise) ref() ref.Ref {
	switch s.below(8) {
	case 0:
		return ref.Nil
	case 1:
		s.below(1)
		return ref.Ref(uint64(*s) ^ uint64(*s)>>31)
	}
	return ref.Ref(1 + s.below(2*mostIds))
}

// far are numbers of no slot and no number of slots, of which some would be
// when their upper bits are dropped, or when their sign is.
func far() []int {
	out := []int{math.MinInt, math.MinInt + 1, math.MinInt + 2, math.MinInt + 5, math.MaxInt - 5, math.MaxInt - 2, math.MaxInt - 1, math.MaxInt}
	for bit := 9; bit < 63; bit++ {
		p := 1 << bit
		out = append(out, p-1, p, p+1, p+2, -p-1, -p, 1-p, 2-p)
	}
	return out
}

// some returns a number from -1 to n + 1, or at times a far one.
func (s *noise) some(n int) int {
	if s.below(20) == 0 {
		return far()[s.below(len(far()))]
	}
	return s.below(n+3) - 1
}

// slots returns a number of slots, most often a small one, at times none that a
// frame has.
func (s *noise) slots() int {
	switch s.below(6) {
	case 0:
		return s.some(mostSlots)
	case 1:
		return 0
	}
	return s.some(7)
}

// model does as the chapter says. The topmost frame is the last one.
type model struct {
	frames [][]ref.Ref
	room   int // words that the space has
}

func (m *model) words() int {
	n := 0
	for _, x := range m.frames {
		n += len(x) + 2
	}
	return n
}

// top returns the slots of the topmost frame, if there is one.
func (m *model) top() []ref.Ref {
	if len(m.frames) == 0 {
		return nil
	}
	return m.frames[len(m.frames)-1]
}

func (m *model) push(slots int) api.Errno {
	if slots < 0 || slots > mostSlots {
		return api.ErrArg
	}
	room := m.room
	for room < m.words()+slots+2 {
		if room == 0 {
			room = 16
		}
		room *= 2
	}
	if room > mostWords {
		return api.ErrFull
	}
	m.room = room
	m.frames = append(m.frames, make([]ref.Ref, slots))
	return api.OK
}

func (m *model) pop() api.Errno {
	if len(m.frames) == 0 {
		return api.ErrFrame
	}
	m.frames = m.frames[:len(m.frames)-1]
	return api.OK
}

// find returns the place of a slot, or what is wrong with a call for it.
func (m *model) find(slot int) (*ref.Ref, api.Errno) {
	if len(m.frames) == 0 {
		return nil, api.ErrFrame
	}
	for i := range m.top() {
		if i == slot {
			return &m.top()[i], api.OK
		}
	}
	return nil, api.ErrIndex
}

// held returns all that is not nil in the order in which Turn meets it.
func (m *model) held() []ref.Ref {
	var out []ref.Ref
	for i := len(m.frames) - 1; i >= 0; i-- {
		for _, r := range m.frames[i] {
			if r != 0 {
				out = append(out, r)
			}
		}
	}
	return out
}

func (m *model) turn(to func(r ref.Ref) ref.Ref) {
	for i := len(m.frames) - 1; i >= 0; i-- {
		for j, r := range m.frames[i] {
			if r != 0 {
				m.frames[i][j] = to(r)
			}
		}
	}
}

// slots returns the number of slots of all frames.
func (m *model) slots() int { return m.words() - 2*len(m.frames) }

// tell is all that Frames should tell, beside their steps.
func (m *model) tell() string {
	var b strings.Builder
	fmt.Fprint(&b, len(m.frames), m.words(), len(m.top()), m.room, m.held())
	for slot := -1; slot <= len(m.top()); slot++ {
		var r ref.Ref
		place, e := m.find(slot)
		if e == api.OK {
			r = *place
		}
		fmt.Fprint(&b, " ", r, e)
	}
	return b.String()
}

// pair is Frames and a model on which the same calls are made.
type pair struct {
	m     *mem.Mem
	got   *frames.Frames
	want  model
	other int // words of the Mem that are in use beside those of the Frames
}

// newPair makes Frames in m.
func newPair(t *testing.T, m *mem.Mem) *pair {
	t.Helper()
	other := m.Held()
	f, e := frames.New(m)
	if e != api.OK || f == nil {
		t.Fatalf("New: %v, error %d", f, e)
	}
	return &pair{m: m, got: f, other: other}
}

// held returns all that is not nil, in the order of Turn.
func held(f *frames.Frames) []ref.Ref {
	var out []ref.Ref
	f.Turn(func(r ref.Ref) ref.Ref {
		out = append(out, r)
		return r
	})
	return out
}

// tell is all that Frames tell, beside their steps.
func (p *pair) tell() string {
	f := p.got
	var b strings.Builder
	fmt.Fprint(&b, f.Depth(), f.Words(), f.Slots(), p.m.Held()-p.other, held(f))
	for slot := -1; slot <= f.Slots(); slot++ {
		r, e := f.Get(slot)
		fmt.Fprint(&b, " ", r, e)
	}
	return b.String()
}

func (p *pair) check(t *testing.T, call string, args ...any) {
	t.Helper()
	if got, want := p.tell(), p.want.tell(); got != want {
		t.Fatalf("%s%v:\n%s, not\n%s", call, args, got, want)
	}
}

// steps returns how many steps a call takes.
func steps(m *mem.Mem, call func()) int {
	before := m.Steps()
	call()
	return int(m.Since(before).Lo)
}

// takes fails unless a call takes exactly so many steps, or none if it fails.
func (p *pair) takes(t *testing.T, want int, e api.Errno, call func(), name string, args ...any) {
	t.Helper()
	if e != api.OK {
		want = 0
	}
	if got := steps(p.m, call); got != want {
		t.Fatalf("%s%v, error %d: %d steps, not %d", name, args, e, got, want)
	}
}

// most fails unless a call takes at most so many steps.
func (p *pair) most(t *testing.T, most int, call func(), name string, args ...any) {
	t.Helper()
	if got := steps(p.m, call); got > most {
		t.Fatalf("%s%v: %d steps, not at most %d", name, args, got, most)
	}
}

// same fails unless both made the same of a call.
func same[T comparable](t *testing.T, call string, got T, e api.Errno, want T, f api.Errno, args ...any) {
	t.Helper()
	if got != want || e != f {
		t.Fatalf("%s%v: %v, error %d, not %v, error %d", call, args, got, e, want, f)
	}
}

func (p *pair) push(t *testing.T, slots int) api.Errno {
	t.Helper()
	want := p.want.push(slots)
	p.takes(t, 2+slots, want, func() { same(t, "Push", 0, p.got.Push(slots), 0, want, slots) }, "Push", slots)
	return want
}

func (p *pair) pop(t *testing.T) api.Errno {
	t.Helper()
	want, most := p.want.pop(), 2
	if want != api.OK {
		most = 0
	}
	p.most(t, most, func() { same(t, "Pop", 0, p.got.Pop(), 0, want) }, "Pop")
	return want
}

func (p *pair) get(t *testing.T, slot int) (ref.Ref, api.Errno) {
	t.Helper()
	var want ref.Ref
	place, f := p.want.find(slot)
	if f == api.OK {
		want = *place
	}
	p.takes(t, 1, f, func() {
		got, e := p.got.Get(slot)
		same(t, "Get", got, e, want, f, slot)
	}, "Get", slot)
	return want, f
}

func (p *pair) set(t *testing.T, slot int, r ref.Ref) api.Errno {
	t.Helper()
	place, want := p.want.find(slot)
	if want == api.OK {
		*place = r
	}
	p.takes(t, 1, want, func() { same(t, "Set", 0, p.got.Set(slot, r), 0, want, slot, r) }, "Set", slot, r)
	return want
}

// turn fails unless to is given the same references in the same order.
func (p *pair) turn(t *testing.T, to func(r ref.Ref) ref.Ref) {
	t.Helper()
	var met []ref.Ref
	want := p.want.held()
	most := 2*len(p.want.frames) + 2*p.want.slots()
	p.most(t, most, func() {
		p.got.Turn(func(r ref.Ref) ref.Ref {
			met = append(met, r)
			return to(r)
		})
	}, "Turn")
	if !slices.Equal(met, want) {
		t.Fatalf("Turn: %v, not %v", met, want)
	}
	p.want.turn(to)
}

// ask fails unless the calls that tell of all frames are right and take no step.
func (p *pair) ask(t *testing.T) {
	t.Helper()
	f := p.got
	p.takes(t, 0, api.OK, func() {
		same(t, "Depth", f.Depth(), 0, len(p.want.frames), 0)
		same(t, "Words", f.Words(), 0, p.want.words(), 0)
		same(t, "Slots", f.Slots(), 0, len(p.want.top()), 0)
		f.Turn(nil)
	}, "asking")
}

// fill sets all slots of the topmost frame to references that nobody else has.
func (p *pair) fill(t *testing.T) {
	t.Helper()
	for slot := range p.want.top() {
		if e := p.set(t, slot, ref.Ref(1000*len(p.want.frames)+slot+1)); e != api.OK {
			t.Fatalf("Set(%d): error %d", slot, e)
		}
	}
}

// pushAll pushes frames and fills them.
func (p *pair) pushAll(t *testing.T, slots ...int) {
	t.Helper()
	for _, n := range slots {
		if e := p.push(t, n); e != api.OK {
			t.Fatalf("Push(%d): error %d", n, e)
		}
		p.fill(t)
	}
}

// popAll pops all frames, with a check after each.
func (p *pair) popAll(t *testing.T) {
	t.Helper()
	for p.pop(t) == api.OK {
		p.check(t, "Pop")
	}
	p.check(t, "Pop")
}

// run makes calls that follow no short rule, of which some fail, and tells
// check of each. Frames become more, then fewer, and so on.
func (p *pair) run(t *testing.T, seed noise, calls int, check func(call string, e api.Errno)) {
	t.Helper()
	for i := range calls {
		slot := seed.some(len(p.want.top()))
		var e api.Errno
		var call string
		switch n := seed.below(24); {
		case n < 4, n < 7 && i/60%2 == 0:
			call, e = "Push", p.push(t, seed.slots())
		case n < 9:
			call, e = "Pop", p.pop(t)
		case n < 13:
			call = "Get"
			_, e = p.get(t, slot)
		case n < 22:
			call, e = "Set", p.set(t, slot, seed.ref())
		case n < 23:
			call = "Turn"
			add := seed.ref()
			p.turn(t, func(r ref.Ref) ref.Ref { return r ^ add })
		default:
			call = "ask"
			p.ask(t)
		}
		check(call, e)
	}
}

// counted is what a Mem tells beside its words.
func counted(m *mem.Mem) string {
	return fmt.Sprint(m.Of(meter.Reads), m.Of(meter.Writes), m.Held(), m.High(), m.Spaces())
}
