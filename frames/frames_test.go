package frames_test

import (
	"fmt"
	"math"
	"reflect"
	"slices"
	"testing"

	"haymow/api"
	"haymow/frames"
	"haymow/mem"
	"haymow/ref"
)

// The calls have these signatures exactly.
var (
	_ func(*mem.Mem) (*frames.Frames, api.Errno)     = frames.New
	_ func(*frames.Frames) int                       = (*frames.Frames).Depth
	_ func(*frames.Frames) int                       = (*frames.Frames).Words
	_ func(*frames.Frames) int                       = (*frames.Frames).Slots
	_ func(*frames.Frames, int) api.Errno            = (*frames.Frames).Push
	_ func(*frames.Frames) api.Errno                 = (*frames.Frames).Pop
	_ func(*frames.Frames, int) (ref.Ref, api.Errno) = (*frames.Frames).Get
	_ func(*frames.Frames, int, ref.Ref) api.Errno   = (*frames.Frames).Set
	_ func(*frames.Frames, func(ref.Ref) ref.Ref)    = (*frames.Frames).Turn
)

// The chapter's bounds, and those of the layers that it uses.
const (
	mostSlots  = 256
	mostWords  = 4194304
	mostSpaces = 262144
	mostIds    = 1048576
)

// The example of the chapter.
func TestExample(t *testing.T) {
	f, e := frames.New(mem.New())
	if e != api.OK {
		t.Fatalf("New: error %d", e)
	}
	for i, e := range []api.Errno{f.Push(2), f.Set(1, 11), f.Push(0), f.Pop()} {
		if e != api.OK {
			t.Errorf("call %d: error %d", i, e)
		}
	}
	if r, e := f.Get(1); r != 11 || e != api.OK || f.Words() != 4 {
		t.Errorf("Get: %d, error %d, Words %d", r, e, f.Words())
	}
}

// P17.1

func TestNew(t *testing.T) {
	m := mem.New()
	m.Open(100)
	for i := range 5 {
		f, e := frames.New(m)
		if e != api.OK || f == nil {
			t.Fatalf("New: %v, error %d", f, e)
		}
		if f.Depth() != 0 || f.Words() != 0 || f.Slots() != 0 {
			t.Errorf("New: Depth %d, Words %d, Slots %d", f.Depth(), f.Words(), f.Slots())
		}
		// An empty space of its own, the next one.
		size, e := m.Size(i + 1)
		if size != 0 || e != api.OK || m.Spaces() != i+2 || m.Held() != 100 || m.Steps() != (api.Wide{}) {
			t.Errorf("New: %d words, error %d, %d spaces, %d words in use, steps %v", size, e, m.Spaces(), m.Held(), m.Steps())
		}
		if e := f.Pop(); e != api.ErrFrame {
			t.Errorf("Pop: error %d", e)
		}
		f.Turn(func(r ref.Ref) ref.Ref {
			t.Errorf("New: there is a slot with %d", r)
			return r
		})
	}
}

func TestNewOfNoMem(t *testing.T) {
	if f, e := frames.New(nil); f != nil || e != api.ErrArg {
		t.Errorf("New(nil): %v, error %d", f, e)
	}
}

// The error of mem.Open.
func TestNewWithoutASpace(t *testing.T) {
	m := mem.New()
	for range mostSpaces {
		m.Open(0)
	}
	before := counted(m)
	if f, e := frames.New(m); f != nil || e != api.ErrFull {
		t.Errorf("New: %v, error %d", f, e)
	}
	if counted(m) != before {
		t.Errorf("New: %s, not %s", counted(m), before)
	}
	m.Close(4711)
	p := newPair(t, m)
	p.pushAll(t, 3, 0, 50)
	p.popAll(t)
	if size, _ := m.Size(4711); size != 64 {
		t.Errorf("the space has %d words", size)
	}
}

// Depth, Words and Slots, written out.
func TestCounts(t *testing.T) {
	f, _ := frames.New(mem.New())
	counts := func(call string, depth, words, slots int) {
		t.Helper()
		if f.Depth() != depth || f.Words() != words || f.Slots() != slots {
			t.Errorf("%s: Depth %d, Words %d, Slots %d", call, f.Depth(), f.Words(), f.Slots())
		}
	}
	f.Push(3)
	counts("Push(3)", 1, 5, 3)
	f.Push(0)
	counts("Push(0)", 2, 7, 0)
	f.Push(256)
	counts("Push(256)", 3, 265, 256)
	f.Push(257)
	counts("Push(257)", 3, 265, 256)
	f.Set(255, 5)
	f.Turn(func(r ref.Ref) ref.Ref { return r + 1 })
	counts("Turn", 3, 265, 256)
	f.Push(1)
	counts("Push(1)", 4, 268, 1)
	f.Pop()
	counts("Pop", 3, 265, 256)
	f.Pop()
	counts("Pop", 2, 7, 0)
	f.Pop()
	counts("Pop", 1, 5, 3)
	f.Pop()
	counts("Pop", 0, 0, 0)
	f.Pop()
	counts("Pop of nothing", 0, 0, 0)
	f.Push(7)
	counts("Push(7)", 1, 9, 7)
}

// P17.2

// Frames of each number of slots, on top of others and below them.
func TestPush(t *testing.T) {
	for slots := range mostSlots + 1 {
		p := newPair(t, mem.New())
		for range 3 {
			p.pushAll(t, slots)
			p.check(t, "Push", slots)
		}
		p.pushAll(t, 0, 1)
		p.popAll(t)
	}
}

// One frame of each number of slots, all on one stack.
func TestPushOfAllNumbers(t *testing.T) {
	p := newPair(t, mem.New())
	for slots := range mostSlots + 1 {
		p.pushAll(t, slots)
	}
	p.check(t, "Push")
	// 0 to 256, and two words for each.
	if p.got.Words() != 32896+514 || p.got.Depth() != 257 {
		t.Errorf("Words %d, Depth %d", p.got.Words(), p.got.Depth())
	}
	for slots := mostSlots; slots >= 0; slots-- {
		if p.got.Slots() != slots {
			t.Errorf("Slots: %d, not %d", p.got.Slots(), slots)
		}
		for slot := range slots {
			p.get(t, slot)
		}
		p.pop(t)
	}
	p.check(t, "Pop")
}

func TestPushOfNoSuchFrame(t *testing.T) {
	for _, below := range []int{0, 1, 4} {
		p := newPair(t, mem.New())
		for n := range below {
			p.pushAll(t, 2*n)
		}
		for _, slots := range append(far(), -300, -257, -256, -3, -2, -1, 257, 258, 259, 300) {
			if e := p.push(t, slots); e != api.ErrArg {
				t.Errorf("Push(%d): error %d", slots, e)
			}
		}
		p.check(t, "Push")
		p.popAll(t)
	}
}

// All slots are nil, though those of a frame that was there before were not.
func TestPushedSlotsAreNil(t *testing.T) {
	for _, slots := range []int{0, 1, 2, 7, 100, 256} {
		p := newPair(t, mem.New())
		p.pushAll(t, 3)
		for _, before := range []int{1, slots, slots + 1, slots + 2, 256} {
			p.pushAll(t, min(before, mostSlots), 4)
			p.pop(t)
			p.pop(t)
			p.push(t, slots)
			p.check(t, "Push", slots, before)
			for slot := range slots {
				if r, e := p.got.Get(slot); r != ref.Nil || e != api.OK {
					t.Errorf("Push(%d): Get(%d): %d, error %d", slots, slot, r, e)
				}
			}
			p.pop(t)
			p.check(t, "Pop")
		}
	}
}

func TestPop(t *testing.T) {
	p := newPair(t, mem.New())
	for range 3 {
		if e := p.pop(t); e != api.ErrFrame {
			t.Errorf("Pop of nothing: error %d", e)
		}
		p.check(t, "Pop")
	}
	p.pushAll(t, 2, 0, 3, 0, 0, 256, 1)
	for range 7 {
		if e := p.pop(t); e != api.OK {
			t.Errorf("Pop: error %d", e)
		}
		p.check(t, "Pop")
	}
	for range 3 {
		if e := p.pop(t); e != api.ErrFrame {
			t.Errorf("Pop of nothing: error %d", e)
		}
		p.check(t, "Pop")
	}
	p.pushAll(t, 1, 2)
	p.popAll(t)
}

// Only the slots of the topmost frame are read and written.
func TestGetAndSet(t *testing.T) {
	numbers := append(far(), -300, -7, -6, -5, -4, -3, -2, -1, 0, 1, 2, 3, 4, 5, 6, 7, 8, 254, 255, 256, 257, 258)
	for _, slots := range []int{0, 1, 2, 5, 255, 256} {
		p := newPair(t, mem.New())
		p.pushAll(t, 6, 4, slots)
		// What was pushed and popped above has slots no more.
		p.pushAll(t, 9)
		p.pop(t)
		for i, slot := range numbers {
			want := api.OK
			if slot < 0 || slot >= slots {
				want = api.ErrIndex
			}
			if _, e := p.get(t, slot); e != want {
				t.Errorf("%d slots: Get(%d): error %d", slots, slot, e)
			}
			if e := p.set(t, slot, ref.Ref(5000+i)); e != want {
				t.Errorf("%d slots: Set(%d): error %d", slots, slot, e)
			}
			p.check(t, "Set", slots, slot)
		}
		p.popAll(t)
	}
}

// Without a frame ErrFrame is ahead of ErrIndex.
func TestGetAndSetWithoutAFrame(t *testing.T) {
	p := newPair(t, mem.New())
	none := func() {
		t.Helper()
		for _, slot := range append(far(), -2, -1, 0, 1, 2, 255, 256, 257) {
			if _, e := p.get(t, slot); e != api.ErrFrame {
				t.Errorf("Get(%d): error %d", slot, e)
			}
			if e := p.set(t, slot, 3); e != api.ErrFrame {
				t.Errorf("Set(%d): error %d", slot, e)
			}
		}
		p.check(t, "Set")
	}
	none()
	p.pushAll(t, 0)
	if _, e := p.get(t, 0); e != api.ErrIndex {
		t.Errorf("Get of a frame without slots: error %d", e)
	}
	p.pop(t)
	none()
	p.pushAll(t, 5, 3)
	p.pop(t)
	p.pop(t)
	none()
}

// Each bit of a slot is stored on its own: a slot holds whatever it is given,
// also what is Bad as a reference.
func TestSlotsHoldAllWords(t *testing.T) {
	p := newPair(t, mem.New())
	p.pushAll(t, 2, 3)
	for slot := range 3 {
		for bit := range 64 {
			p.set(t, slot, 1<<bit)
			p.check(t, "Set", slot, bit)
			p.set(t, slot, math.MaxUint64-1<<bit)
			p.check(t, "Set", slot, bit)
			p.push(t, 3)
			p.pop(t)
			p.check(t, "Pop", slot, bit)
		}
		p.set(t, slot, ref.Nil)
		p.check(t, "Set", slot)
	}
	p.popAll(t)
}

// nearlyFull makes frames that leave so many words of the greatest space, at
// most 510.
func nearlyFull(t *testing.T, left int) (*frames.Frames, *mem.Mem) {
	t.Helper()
	m := mem.New()
	f, _ := frames.New(m)
	push := func(slots int) {
		if e := f.Push(slots); e != api.OK {
			t.Fatalf("Push(%d) with %d words: error %d", slots, f.Words(), e)
		}
	}
	// These frames of 258 words leave 514.
	for range 16255 {
		push(256)
	}
	one := min(256, 510-left)
	push(one)
	push(510 - left - one)
	if f.Words() != mostWords-left {
		t.Fatalf("Words: %d", f.Words())
	}
	return f, m
}

// The space cannot grow beyond the greatest one, whose words are all used.
func TestPushAtTheBound(t *testing.T) {
	for _, left := range []int{0, 1, 2, 3, 4, 100, 255, 256, 257, 258, 259} {
		f, m := nearlyFull(t, left)
		for slots := -2; slots <= 260; slots++ {
			want := api.OK
			switch {
			case slots < 0 || slots > mostSlots:
				want = api.ErrArg
			case slots+2 > left:
				want = api.ErrFull
			}
			depth, words, top := f.Depth(), f.Words(), f.Slots()
			before := m.Steps()
			if e := f.Push(slots); e != want {
				t.Fatalf("%d words left: Push(%d): error %d", left, slots, e)
			}
			if want != api.OK {
				if f.Depth() != depth || f.Words() != words || f.Slots() != top || m.Steps() != before {
					t.Errorf("%d words left: Push(%d) had an effect", left, slots)
				}
				continue
			}
			if f.Depth() != depth+1 || f.Words() != words+slots+2 || f.Slots() != slots {
				t.Errorf("%d words left: Push(%d): Depth %d, Words %d, Slots %d", left, slots, f.Depth(), f.Words(), f.Slots())
			}
			if slots > 0 && (f.Set(slots-1, 77) != api.OK || f.Set(slots, 77) != api.ErrIndex) {
				t.Errorf("%d words left: Push(%d): Set", left, slots)
			}
			f.Pop()
		}
		if m.Held() != mostWords || m.High() != mostWords {
			t.Errorf("%d words in use, most %d", m.Held(), m.High())
		}
	}
}

// ErrArg is ahead of ErrFull, also far away.
func TestPushOfNoSuchFrameAtTheBound(t *testing.T) {
	f, m := nearlyFull(t, 0)
	before := counted(m)
	for _, slots := range append(far(), -3, -2, -1, 257, 258) {
		if e := f.Push(slots); e != api.ErrArg {
			t.Errorf("Push(%d): error %d", slots, e)
		}
	}
	for _, slots := range []int{0, 1, 2, 255, 256} {
		if e := f.Push(slots); e != api.ErrFull {
			t.Errorf("Push(%d): error %d", slots, e)
		}
	}
	if counted(m) != before {
		t.Errorf("Push: %s, not %s", counted(m), before)
	}
}

// The most frames that there can be.
func TestTheMostFrames(t *testing.T) {
	m := mem.New()
	f, _ := frames.New(m)
	f.Push(2)
	f.Set(1, 42)
	for f.Push(0) == api.OK {
	}
	const most = mostWords/2 - 1
	if f.Depth() != most || f.Words() != mostWords || f.Slots() != 0 || m.Held() != mostWords {
		t.Fatalf("Depth %d, Words %d, Slots %d, %d words in use", f.Depth(), f.Words(), f.Slots(), m.Held())
	}
	if n := steps(m, func() { f.Turn(func(r ref.Ref) ref.Ref { return r + 1 }) }); n > 2*most+4 {
		t.Errorf("Turn: %d steps", n)
	}
	for range most - 1 {
		if e := f.Pop(); e != api.OK {
			t.Fatalf("Pop: error %d", e)
		}
	}
	if r, e := f.Get(1); r != 43 || e != api.OK || f.Depth() != 1 || f.Words() != 4 || f.Slots() != 2 {
		t.Errorf("Get: %d, error %d", r, e)
	}
	if f.Pop() != api.OK || f.Pop() != api.ErrFrame {
		t.Errorf("Pop")
	}
}

// P17.3

func TestTurnOfNothing(t *testing.T) {
	for _, slots := range [][]int{{}, {0}, {3}, {2, 0, 4}, {256}} {
		p := newPair(t, mem.New())
		p.pushAll(t, slots...)
		p.takes(t, 0, api.OK, func() { p.got.Turn(nil) }, "Turn of nil")
		p.check(t, "Turn", slots)
		p.turn(t, func(r ref.Ref) ref.Ref { return r + 1 })
		p.check(t, "Turn", slots)
		p.popAll(t)
	}
}

// The order, written out.
func TestTurnOrder(t *testing.T) {
	f, _ := frames.New(mem.New())
	for i, slots := range []int{3, 0, 1, 4} {
		f.Push(slots)
		for slot := range slots {
			f.Set(slot, ref.Ref(10*(i+1)+slot))
		}
	}
	f.Set(1, ref.Nil)
	turn := func(add ref.Ref, want ...ref.Ref) {
		t.Helper()
		var met []ref.Ref
		f.Turn(func(r ref.Ref) ref.Ref {
			met = append(met, r)
			return r + add
		})
		if !slices.Equal(met, want) {
			t.Errorf("Turn: %v, not %v", met, want)
		}
	}
	turn(100, 40, 42, 43, 30, 10, 11, 12)
	turn(0, 140, 142, 143, 130, 110, 111, 112)
	f.Pop()
	turn(1, 130, 110, 111, 112)
	f.Pop()
	f.Pop()
	turn(1, 111, 112, 113)
	f.Pop()
	turn(1)
}

// Slots that are nil are not given to a function, whatever it makes of nil, and
// those of popped frames neither.
func TestTurnSkipsNil(t *testing.T) {
	p := newPair(t, mem.New())
	p.pushAll(t, 5, 3)
	p.set(t, 0, ref.Nil)
	p.pushAll(t, 6)
	p.pop(t)
	p.push(t, 4)
	p.set(t, 2, 9)
	p.turn(t, func(r ref.Ref) ref.Ref {
		if r == ref.Nil {
			t.Errorf("Turn gave nil")
		}
		return r + 3
	})
	p.check(t, "Turn")
	p.popAll(t)
}

// A slot holds whatever the function returns: nil, which the next Turn skips,
// and what is Bad as a reference.
func TestTurnToAllWords(t *testing.T) {
	p := newPair(t, mem.New())
	for bit := range 64 {
		p.pushAll(t, 2, 0, 3)
		p.turn(t, func(r ref.Ref) ref.Ref { return 1<<bit | r })
		p.check(t, "Turn", bit)
		p.turn(t, func(r ref.Ref) ref.Ref { return ^r })
		p.check(t, "Turn", bit)
		p.turn(t, func(r ref.Ref) ref.Ref { return (r & 1) * 1 << bit })
		p.check(t, "Turn", bit)
		p.turn(t, func(ref.Ref) ref.Ref { return ref.Nil })
		p.check(t, "Turn", bit)
		p.turn(t, func(ref.Ref) ref.Ref { return 5 })
		p.check(t, "Turn", bit)
	}
	p.popAll(t)
}

// A function is asked once for each slot, though slots hold the same.
func TestTurnOfTheSame(t *testing.T) {
	p := newPair(t, mem.New())
	for range 4 {
		p.push(t, 3)
		for slot := range 3 {
			p.set(t, slot, 7)
		}
	}
	n := ref.Ref(0)
	p.got.Turn(func(r ref.Ref) ref.Ref {
		n++
		return r + n
	})
	if n != 12 {
		t.Errorf("Turn asked %d times", n)
	}
	n = 0
	p.want.turn(func(r ref.Ref) ref.Ref {
		n++
		return r + n
	})
	p.check(t, "Turn")
	p.popAll(t)
}

// Frames of each number of slots are turned as a whole.
func TestTurnOfAllNumbers(t *testing.T) {
	p := newPair(t, mem.New())
	for slots := range mostSlots + 1 {
		p.pushAll(t, slots)
		p.turn(t, func(r ref.Ref) ref.Ref { return r + 1 })
	}
	p.check(t, "Turn")
	p.popAll(t)
}

// P17.4

// The sizes of the space, written out.
func TestGrowth(t *testing.T) {
	m := mem.New()
	m.Open(1000)
	f, _ := frames.New(m)
	for i, c := range []struct{ slots, size int }{
		{0, 32}, {27, 32}, {0, 64}, {29, 64}, {61, 128}, {0, 256}, {124, 256},
		{256, 1024}, {254, 1024}, {0, 1024}, {251, 1024}, {0, 2048},
	} {
		if e := f.Push(c.slots); e != api.OK {
			t.Fatalf("Push(%d): error %d", c.slots, e)
		}
		size, _ := m.Size(1)
		if size != c.size || m.Held() != 1000+c.size || m.High() != 1000+c.size {
			t.Errorf("frame %d: %d words of %d, %d in use, most %d", i, f.Words(), size, m.Held(), m.High())
		}
	}
	// It keeps its size when frames are popped, and pushed again.
	for f.Pop() == api.OK {
	}
	for range 7 {
		f.Push(256)
	}
	if size, _ := m.Size(1); size != 2048 || f.Words() != 1806 {
		t.Errorf("%d words of %d", f.Words(), size)
	}
	f.Push(241)
	if size, _ := m.Size(1); size != 4096 || f.Words() != 2049 {
		t.Errorf("%d words of %d", f.Words(), size)
	}
}

// The first frame has a space that grew as often as it needed.
func TestGrowthByTheFirstFrame(t *testing.T) {
	for slots := range mostSlots + 1 {
		want := 32
		for _, size := range []int{64, 128, 256, 512} {
			if slots > size/2-2 {
				want = size
			}
		}
		p := newPair(t, mem.New())
		p.pushAll(t, slots)
		if p.m.Held() != want {
			t.Errorf("Push(%d): %d words in use", slots, p.m.Held())
		}
		p.check(t, "Push", slots)
	}
}

// All sizes up to the greatest, with frames of few slots and of many.
func TestGrowthToTheEnd(t *testing.T) {
	for _, slots := range []int{5, 30, 62, 126, 254, 256} {
		m := mem.New()
		f, _ := frames.New(m)
		size := 0
		for f.Push(slots) == api.OK {
			for size < f.Words() {
				size = max(32, 2*size)
			}
			if m.Held() != size {
				t.Fatalf("%d words: %d in use", f.Words(), m.Held())
			}
		}
		if size != mostWords || f.Words() <= mostWords-slots-2 {
			t.Errorf("frames of %d slots: %d words, %d in use", slots, f.Words(), m.Held())
		}
	}
}

// The numbers of steps, written out; of those that are at most so many, the
// most.
func TestSteps(t *testing.T) {
	m := mem.New()
	var f *frames.Frames
	add := func(r ref.Ref) ref.Ref { return r + 1 }
	for _, c := range []struct {
		name        string
		least, most int
		call        func()
	}{
		{"New", 0, 0, func() { f, _ = frames.New(m) }},
		{"Pop of nothing", 0, 0, func() { f.Pop() }},
		{"Get without a frame", 0, 0, func() { f.Get(0) }},
		{"Set without a frame", 0, 0, func() { f.Set(0, 5) }},
		{"Turn without a frame", 0, 0, func() { f.Turn(add) }},
		{"Push of too few", 0, 0, func() { f.Push(-1) }},
		{"Push of too many", 0, 0, func() { f.Push(257) }},
		{"Push of 5", 7, 7, func() { f.Push(5) }},
		{"Turn of nil slots", 0, 12, func() { f.Turn(add) }},
		{"Push of 0", 2, 2, func() { f.Push(0) }},
		{"Push of 256", 258, 258, func() { f.Push(256) }},
		{"Set", 1, 1, func() { f.Set(255, 5) }},
		{"Set again", 1, 1, func() { f.Set(255, 5) }},
		{"Set to nil", 1, 1, func() { f.Set(3, 0) }},
		{"Set of no slot", 0, 0, func() { f.Set(256, 5) }},
		{"Get", 1, 1, func() { f.Get(0) }},
		{"Get of no slot", 0, 0, func() { f.Get(-1) }},
		{"Turn", 1, 528, func() { f.Turn(add) }},
		{"Turn by nothing", 0, 0, func() { f.Turn(nil) }},
		{"Depth", 0, 0, func() { f.Depth() }},
		{"Words", 0, 0, func() { f.Words() }},
		{"Slots", 0, 0, func() { f.Slots() }},
		{"Pop of 256", 0, 2, func() { f.Pop() }},
		{"Push of 256 again", 258, 258, func() { f.Push(256) }},
		{"Pop of 256 again", 0, 2, func() { f.Pop() }},
		{"Pop of 0", 0, 2, func() { f.Pop() }},
		{"Pop of 5", 0, 2, func() { f.Pop() }},
		{"Pop of nothing again", 0, 0, func() { f.Pop() }},
	} {
		if n := steps(m, c.call); n < c.least || n > c.most {
			t.Errorf("%s: %d steps, not %d to %d", c.name, n, c.least, c.most)
		}
	}
}

// The steps of Turn, with all slots in use.
func TestStepsOfTurn(t *testing.T) {
	for _, slots := range []int{0, 1, 2, 3, 50, 256} {
		p := newPair(t, mem.New())
		for range 20 {
			p.pushAll(t, slots)
			p.turn(t, func(r ref.Ref) ref.Ref { return r + 1 })
		}
		p.check(t, "Turn", slots)
	}
}

// Long runs of calls, with all slots and steps.
func TestRuns(t *testing.T) {
	seen := map[string]int{}
	for seed := range noise(40) {
		p := newPair(t, mem.New())
		p.run(t, seed, 1500, func(call string, e api.Errno) {
			seen[fmt.Sprint(call, e)]++
			p.check(t, call)
		})
		p.popAll(t)
	}
	for _, call := range []string{"Push0", "Push1", "Pop0", "Pop33", "Get0", "Get32", "Get33", "Set0", "Set32", "Set33", "Turn0", "ask0"} {
		if seen[call] < 20 {
			t.Errorf("%s %d times only", call, seen[call])
		}
	}
}

// P17.5

// What a frame holds is there again when it is the topmost one again, however
// many frames were above it.
func TestContentsAreUnchanged(t *testing.T) {
	for _, slots := range []int{0, 1, 2, 3, 17, 255, 256} {
		p := newPair(t, mem.New())
		p.pushAll(t, 4, slots)
		seed := noise(slots)
		for range 40 {
			depth := 2
			for range 30 {
				if seed.below(3) > 0 || depth == 2 {
					p.pushAll(t, seed.below(20))
					depth++
				} else {
					p.pop(t)
					depth--
				}
			}
			for ; depth > 2; depth-- {
				p.pop(t)
			}
			for slot := range slots {
				if r, e := p.got.Get(slot); r != ref.Ref(2001+slot) || e != api.OK {
					t.Fatalf("Get(%d): %d, error %d", slot, r, e)
				}
			}
			p.check(t, "Pop")
		}
	}
}

// Also those of very many frames, of which each is looked at.
func TestContentsOfManyFrames(t *testing.T) {
	f, _ := frames.New(mem.New())
	const many = 100000
	slotsOf := func(i int) int { return i * 7 % 11 }
	for i := range many {
		f.Push(slotsOf(i))
		for slot := range slotsOf(i) {
			f.Set(slot, ref.Ref(20*i+slot+1))
		}
	}
	for i := many - 1; i >= 0; i-- {
		if f.Depth() != i+1 || f.Slots() != slotsOf(i) {
			t.Fatalf("frame %d: Depth %d, Slots %d", i, f.Depth(), f.Slots())
		}
		for slot := range slotsOf(i) {
			if r, e := f.Get(slot); r != ref.Ref(20*i+slot+1) || e != api.OK {
				t.Fatalf("frame %d: Get(%d): %d, error %d", i, slot, r, e)
			}
		}
		f.Pop()
	}
	if f.Depth() != 0 || f.Words() != 0 {
		t.Errorf("Depth %d, Words %d", f.Depth(), f.Words())
	}
}

// P1

// anything makes calls that follow no short rule, without a look at what they
// return.
func (s *noise) anything(f *frames.Frames, calls int) {
	for range calls {
		slot := s.some(9)
		switch s.below(6) {
		case 0, 1:
			f.Push(s.slots())
		case 2:
			f.Pop()
		case 3:
			f.Get(slot)
		case 4:
			f.Set(slot, s.ref())
		case 5:
			f.Depth()
			f.Words()
			f.Slots()
			f.Turn(func(r ref.Ref) ref.Ref { return r })
		}
	}
}

// bounded fails unless frames are such as there may be.
func bounded(t *testing.T, f *frames.Frames) {
	t.Helper()
	if f.Slots() < 0 || f.Slots() > mostSlots || f.Words() > mostWords || f.Depth() < 0 {
		t.Fatalf("Depth %d, Words %d, Slots %d", f.Depth(), f.Words(), f.Slots())
	}
}

// Calls end and do not panic, whatever was done to the space, even if it does
// not exist any more.
func TestCallsEndForAllSpaces(t *testing.T) {
	for seed := range noise(400) {
		m := mem.New()
		f, _ := frames.New(m)
		for range 6 {
			seed.anything(f, 20)
			size, _ := m.Size(0)
			for range seed.below(20) {
				m.Write(0, seed.below(size+1), []uint64{0, 1, 2, 255, 256, 257, 1 << 22, 1 << 62, 1 << 63, math.MaxUint64, math.MaxUint64 - 1, uint64(seed.ref())}[seed.below(12)])
			}
			switch seed.below(12) {
			case 0:
				m.Close(0)
			case 1:
				m.Close(0)
				m.Open(seed.below(99))
			case 2:
				m.Grow(0, size+seed.below(99))
			}
			seed.anything(f, 20)
			bounded(t, f)
		}
		for f.Pop() == api.OK {
			bounded(t, f)
		}
	}
}

// A function may call the frames' methods. What that does is open, but all
// calls end, then and later.
func TestMethodsWithinTurn(t *testing.T) {
	for seed := range noise(400) {
		f, _ := frames.New(mem.New())
		for range 10 {
			seed.anything(f, 20)
			calls := 1 + seed.below(30)
			f.Turn(func(r ref.Ref) ref.Ref {
				seed.anything(f, calls)
				return seed.ref()
			})
			bounded(t, f)
		}
		for f.Pop() == api.OK {
			bounded(t, f)
		}
	}
}

// Turn may be called from within, too.
func TestTurnWithinTurn(t *testing.T) {
	f, _ := frames.New(mem.New())
	f.Push(2)
	f.Set(0, 8)
	f.Push(1)
	f.Set(0, 9)
	asked := 0
	var to func(r ref.Ref) ref.Ref
	to = func(r ref.Ref) ref.Ref {
		asked++
		f.Turn(nil)
		f.Turn(to)
		return r + 10
	}
	f.Turn(to)
	if asked != 2 {
		t.Errorf("asked %d times", asked)
	}
	// The next one has its effect again.
	if got := held(f); !slices.Equal(got, []ref.Ref{19, 18}) {
		t.Errorf("slots: %v", got)
	}
}

// Turn does not panic, though the function does: what that tells nothing of is
// left as it is, and all else is turned.
func TestTurnByAFunctionThatPanics(t *testing.T) {
	p := newPair(t, mem.New())
	p.pushAll(t, 3, 0, 4)
	broken := func(r ref.Ref) bool { return r%3 == 0 }
	p.got.Turn(func(r ref.Ref) ref.Ref {
		if broken(r) {
			panic("broken")
		}
		return r + 100000
	})
	p.want.turn(func(r ref.Ref) ref.Ref {
		if broken(r) {
			return r
		}
		return r + 100000
	})
	p.check(t, "Turn")
	p.turn(t, func(r ref.Ref) ref.Ref { return r + 1 })
	p.check(t, "Turn")
	p.popAll(t)
}

// P2 (rules 3 and 4)

func TestFailedCallsHaveNoEffect(t *testing.T) {
	for seed := range noise(10) {
		m := mem.New()
		p := newPair(t, m)
		look := func() string {
			words, _ := m.Look(0)
			f := p.got
			return fmt.Sprint(words, counted(m), f.Depth(), f.Words(), f.Slots())
		}
		before, failed := look(), 0
		p.run(t, 100+seed, 800, func(call string, e api.Errno) {
			now := look()
			if e != api.OK || call == "ask" {
				failed++
				if now != before {
					t.Fatalf("%s, error %d, changed %s to %s", call, e, before, now)
				}
			}
			before = now
		})
		if failed < 100 {
			t.Errorf("%d calls failed only", failed)
		}
	}
}

// The same calls have the same results.
func TestTheSameCalls(t *testing.T) {
	run := func() []string {
		m := mem.New()
		p := newPair(t, m)
		var out []string
		p.run(t, 200, 500, func(string, api.Errno) { out = append(out, p.tell(), counted(m)) })
		return out
	}
	if !slices.Equal(run(), run()) {
		t.Errorf("the same calls differ")
	}
}

// Frames in one Mem, and in others, leave each other alone, and the other
// spaces of their Mem too.
func TestFramesAreApart(t *testing.T) {
	m := mem.New()
	other, _ := m.Open(5)
	m.Write(other, 4, 77)
	list := []*pair{newPair(t, m), newPair(t, m), newPair(t, mem.New()), newPair(t, m)}
	for i := range 60 {
		for at, p := range list {
			p.run(t, noise(1000*i+at), 15, func(string, api.Errno) {})
			for _, p := range list {
				p.other = p.m.Held() - p.want.room
				p.check(t, "a call on other Frames")
			}
		}
	}
	if words, _ := m.Look(other); !slices.Equal(words, []uint64{0, 0, 0, 0, 77}) {
		t.Errorf("another space: %v", words)
	}
	want := 5
	for _, p := range []*pair{list[0], list[1], list[3]} {
		want += p.want.room
	}
	if m.Held() != want {
		t.Errorf("%d words in use, not %d", m.Held(), want)
	}
}

// Frames show the chapter's methods and nothing else, and all that they keep
// beside their Mem is numbers and whether they turn.
func TestNothingElseIsExported(t *testing.T) {
	of := reflect.TypeFor[*frames.Frames]()
	var got []string
	for i := range of.NumMethod() {
		got = append(got, of.Method(i).Name)
	}
	want := []string{"Depth", "Get", "Pop", "Push", "Set", "Slots", "Turn", "Words"}
	if !slices.Equal(got, want) {
		t.Errorf("methods: %v", got)
	}
	plain(t, of.Elem())
}

// plain fails unless all fields of a struct are unexported, and are a Mem, a
// number, a bool or such a struct.
func plain(t *testing.T, of reflect.Type) {
	t.Helper()
	for i := range of.NumField() {
		f := of.Field(i)
		switch {
		case f.IsExported():
			t.Errorf("field %s is exported", f.Name)
		case f.Type.Kind() == reflect.Struct:
			plain(t, f.Type)
		case f.Type != reflect.TypeFor[*mem.Mem]() && f.Type.Kind() != reflect.Int && f.Type.Kind() != reflect.Bool:
			t.Errorf("field %s of type %v", f.Name, f.Type)
		}
	}
}
