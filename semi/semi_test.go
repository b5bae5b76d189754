package semi_test

import (
	"fmt"
	"math"
	"reflect"
	"slices"
	"testing"

	"haymow/api"
	"haymow/mem"
	"haymow/semi"
)

// The calls have these signatures exactly.
var (
	_ func(*mem.Mem, int) (*semi.Semi, api.Errno) = semi.New
	_ func(*semi.Semi) int                        = (*semi.Semi).Size
	_ func(*semi.Semi) int                        = (*semi.Semi).Top
	_ func(*semi.Semi) int                        = (*semi.Semi).Room
	_ func(*semi.Semi) bool                       = (*semi.Semi).Turning
	_ func(*semi.Semi) int                        = (*semi.Semi).OldTop
	_ func(*semi.Semi, int) (int, api.Errno)      = (*semi.Semi).Take
	_ func(*semi.Semi, int) (uint64, api.Errno)   = (*semi.Semi).Read
	_ func(*semi.Semi, int, uint64) api.Errno     = (*semi.Semi).Write
	_ func(*semi.Semi, int) api.Errno             = (*semi.Semi).Resize
	_ func(*semi.Semi, int) api.Errno             = (*semi.Semi).Flip
	_ func(*semi.Semi, int) (uint64, api.Errno)   = (*semi.Semi).ReadOld
	_ func(*semi.Semi, int, uint64) api.Errno     = (*semi.Semi).WriteOld
	_ func(*semi.Semi, int, int) (int, api.Errno) = (*semi.Semi).Move
	_ func(*semi.Semi) api.Errno                  = (*semi.Semi).End
)

// The chapter's bounds.
const (
	mostWords  = 4194304
	mostSpaces = 262144
)

// The example of the chapter.
func TestExample(t *testing.T) {
	s, e := semi.New(mem.New(), 4)
	if e != api.OK {
		t.Fatalf("New: error %d", e)
	}
	if at, e := s.Take(3); at != 0 || e != api.OK {
		t.Errorf("Take(3): %d, error %d", at, e)
	}
	if at, e := s.Take(2); at != 0 || e != api.ErrFull {
		t.Errorf("Take(2): %d, error %d", at, e)
	}
	if e := s.Flip(4); e != api.OK {
		t.Errorf("Flip(4): error %d", e)
	}
	if at, e := s.Move(1, 2); at != 0 || e != api.OK {
		t.Errorf("Move(1, 2): %d, error %d", at, e)
	}
}

// filled makes a Semi of which so many words are allocated, and written.
func filled(t *testing.T, words, top int) *pair {
	t.Helper()
	p := newPair(t, mem.New(), words)
	if top > 0 {
		p.take(t, top)
	}
	p.fill(t, 100)
	return p
}

// turned makes a Semi whose old space has so many words written, and whose
// current one has so many words.
func turned(t *testing.T, top, words int) *pair {
	t.Helper()
	p := filled(t, top+1, top)
	if e := p.flip(t, words); e != api.OK {
		t.Fatalf("Flip(%d): error %d", words, e)
	}
	return p
}

// P14.1

func TestNew(t *testing.T) {
	m := mem.New()
	held := 0
	for i, words := range []int{0, 1, 2, 3, 255, 256, 257, 65536, mostWords - 1, mostWords} {
		p := newPair(t, m, words)
		held += words
		if m.Spaces() != i+1 || m.Held() != held || m.Steps() != (api.Wide{}) {
			t.Errorf("New(%d): %d spaces, %d words in use, steps %v", words, m.Spaces(), m.Held(), m.Steps())
		}
		s := p.got
		if s.Size() != words || s.Top() != 0 || s.Room() != words || s.Turning() || s.OldTop() != 0 {
			t.Errorf("New(%d): Size %d, Top %d, Room %d, Turning %v, OldTop %d", words, s.Size(), s.Top(), s.Room(), s.Turning(), s.OldTop())
		}
		p.check(t, "New", words)
	}
}

func TestNewOfNoMem(t *testing.T) {
	for _, words := range append(far(), -1, 0, 1, 2, mostWords, mostWords+1) {
		if s, e := semi.New(nil, words); s != nil || e != api.ErrArg {
			t.Errorf("New(nil, %d): %v, error %d", words, s, e)
		}
	}
}

// The errors of mem.Open, in their order.
func TestNewWithoutASpace(t *testing.T) {
	m := mem.New()
	m.Open(3)
	wrong := append(far(), -1000, -2, -1, mostWords+1, mostWords+2, 2*mostWords)
	tryWrong := func() {
		before := counted(m)
		for _, words := range wrong {
			want := api.ErrLong
			if words < 0 {
				want = api.ErrArg
			}
			if s, e := semi.New(m, words); s != nil || e != want {
				t.Errorf("New(%d): %v, error %d", words, s, e)
			}
		}
		if counted(m) != before {
			t.Errorf("New: %s, not %s", counted(m), before)
		}
	}
	tryWrong()
	for m.Spaces() < mostSpaces {
		m.Open(0)
	}
	tryWrong()
	before := counted(m)
	for _, words := range []int{0, 1, mostWords} {
		if s, e := semi.New(m, words); s != nil || e != api.ErrFull {
			t.Errorf("New(%d): %v, error %d", words, s, e)
		}
	}
	if counted(m) != before {
		t.Errorf("New: %s, not %s", counted(m), before)
	}
	m.Close(4711)
	newPair(t, m, 5).check(t, "New")
}

// Size, Top, Room, Turning and OldTop are those of their spaces in each state.
func TestCounts(t *testing.T) {
	p := newPair(t, mem.New(), 10)
	counts := func(call string, size, top, oldTop int, turning bool) {
		t.Helper()
		s := p.got
		got := []any{s.Size(), s.Top(), s.Room(), s.OldTop(), s.Turning()}
		if want := []any{size, top, size - top, oldTop, turning}; !slices.Equal(got, want) {
			t.Errorf("%s: %v, not %v", call, got, want)
		}
		p.ask(t)
	}
	counts("New", 10, 0, 0, false)
	p.take(t, 4)
	counts("Take", 10, 4, 0, false)
	p.take(t, 6)
	counts("Take", 10, 10, 0, false)
	p.resize(t, 13)
	counts("Resize", 13, 10, 0, false)
	p.flip(t, 7)
	counts("Flip", 7, 0, 10, true)
	p.move(t, 2, 3)
	counts("Move", 7, 3, 10, true)
	p.take(t, 2)
	counts("Take", 7, 5, 10, true)
	p.resize(t, 20)
	counts("Resize", 20, 5, 10, true)
	p.end(t)
	counts("End", 20, 5, 0, false)
	p.flip(t, 0)
	counts("Flip", 0, 0, 5, true)
	p.end(t)
	counts("End", 0, 0, 0, false)
	p.flip(t, 2)
	counts("Flip", 2, 0, 0, true)
	p.end(t)
	counts("End", 2, 0, 0, false)
}

// P14.2

func TestTake(t *testing.T) {
	for words := range 8 {
		for top := 0; top <= words; top++ {
			for n := -3; n <= words+3; n++ {
				p := filled(t, words, top)
				e := p.take(t, n)
				p.check(t, "Take", words, top, n)
				if want := e == api.OK; want != (n >= 1 && top+n <= words) {
					t.Errorf("%d of %d words: Take(%d): error %d", top, words, n, e)
				}
			}
		}
	}
}

func TestTakeOfFarNumbers(t *testing.T) {
	for _, top := range []int{0, 3, 7} {
		p := filled(t, 7, top)
		for _, n := range append(far(), 1<<16, 1<<16+1, 1<<8, 1<<8+1, -1<<8, mostWords, mostWords+1) {
			want := api.ErrFull
			if n < 0 {
				want = api.ErrArg
			}
			if e := p.take(t, n); e != want {
				t.Errorf("Take(%d): error %d", n, e)
			}
		}
		p.check(t, "Take")
	}
}

// All words of the greatest space are allocated, and no further one.
func TestTakeOfTheGreatestSpace(t *testing.T) {
	p := newPair(t, mem.New(), mostWords)
	s := p.got
	for _, n := range []int{1, mostWords - 2, 1} {
		if _, e := s.Take(n); e != api.OK {
			t.Errorf("Take(%d): error %d", n, e)
		}
	}
	if at, e := s.Take(1); at != 0 || e != api.ErrFull || s.Room() != 0 || s.Top() != mostWords {
		t.Errorf("Take: %d, error %d, Room %d, Top %d", at, e, s.Room(), s.Top())
	}
	if e := s.Write(mostWords-1, 5); e != api.OK {
		t.Errorf("Write: error %d", e)
	}
	if w, e := s.Read(mostWords - 1); w != 5 || e != api.OK {
		t.Errorf("Read: %d, error %d", w, e)
	}
	if _, e := s.Read(mostWords); e != api.ErrBounds {
		t.Errorf("Read: error %d", e)
	}
}

// Allocated words are 0 in each space that the Semi ever has, though those of
// earlier spaces were written.
func TestTakenWordsAreZero(t *testing.T) {
	p := newPair(t, mem.New(), 6)
	for range 5 {
		for _, n := range []int{1, 3, 2} {
			p.take(t, n)
			p.check(t, "Take", n)
		}
		p.resize(t, 9)
		p.take(t, 3)
		p.check(t, "Take")
		p.fill(t, math.MaxUint64-20)
		p.flip(t, 6)
		p.move(t, 0, 1)
		p.take(t, 1)
		p.check(t, "Take")
		p.end(t)
		p.flip(t, 6)
		p.end(t)
		p.check(t, "End")
	}
}

// Only allocated words are read and written, not all that the space has.
func TestReadAndWrite(t *testing.T) {
	for words := range 6 {
		for top := 0; top <= words; top++ {
			p := filled(t, words, top)
			for _, at := range append(far(), -7, -3, -2, -1, 0, 1, 2, 3, 4, 5, 6, 7, 256, 257, 65536) {
				want := api.OK
				if at < 0 || at >= top {
					want = api.ErrBounds
				}
				if e := p.read(t, false, at); e != want {
					t.Errorf("%d of %d words: Read(%d): error %d", top, words, at, e)
				}
				if e := p.write(t, false, at, uint64(at)); e != want {
					t.Errorf("%d of %d words: Write(%d): error %d", top, words, at, e)
				}
				p.check(t, "Write", at)
			}
			p.take(t, words-top)
			// What was refused was not stored either.
			p.check(t, "Take", words-top)
		}
	}
}

// Each bit of each word is stored on its own, in both spaces.
func TestBits(t *testing.T) {
	p := turned(t, 3, 3)
	p.take(t, 3)
	for _, old := range []bool{false, true} {
		for at := range 3 {
			for bit := range 64 {
				p.write(t, old, at, 1<<bit)
				p.check(t, "Write", old, at, bit)
				p.write(t, old, at, math.MaxUint64-1<<bit)
				p.check(t, "Write", old, at, bit)
			}
		}
	}
}

func TestResize(t *testing.T) {
	for words := range 6 {
		for top := 0; top <= words; top++ {
			for n := -3; n <= words+5; n++ {
				p := filled(t, words, top)
				want := api.OK
				if n < 0 {
					want = api.ErrArg
				}
				if e := p.resize(t, n); e != want {
					t.Errorf("%d words: Resize(%d): error %d", words, n, e)
				}
				p.check(t, "Resize", words, n)
				if got := p.got.Size(); n <= words && got != words || n > words && got != n {
					t.Errorf("%d words: Resize(%d): %d", words, n, got)
				}
				if p.got.Room() > 0 {
					p.take(t, p.got.Room())
				}
				p.check(t, "Take", words, n)
			}
		}
	}
}

// The greatest space is enlarged by nothing, and no other one beyond it.
func TestResizeAtTheBound(t *testing.T) {
	for _, words := range []int{0, 5, mostWords - 1, mostWords} {
		p := newPair(t, mem.New(), words)
		for _, n := range append(far(), -1, mostWords+1, mostWords+2, 2*mostWords) {
			want := api.ErrLong
			if n < 0 {
				want = api.ErrArg
			}
			if e := p.resize(t, n); e != want {
				t.Errorf("%d words: Resize(%d): error %d", words, n, e)
			}
		}
		p.check(t, "Resize")
		for range 2 {
			if e := p.resize(t, mostWords); e != api.OK || p.got.Size() != mostWords {
				t.Errorf("%d words: Resize: error %d, Size %d", words, e, p.got.Size())
			}
		}
		if e := p.resize(t, mostWords+1); e != api.ErrLong {
			t.Errorf("%d words: Resize: error %d", words, e)
		}
		p.check(t, "Resize")
	}
}

// In a collection the current space is enlarged, and the old one stays as it is.
func TestResizeWhileTurning(t *testing.T) {
	p := turned(t, 5, 2)
	p.move(t, 1, 2)
	for _, n := range []int{2, 1, 0, 3, 6, 4, 11} {
		p.resize(t, n)
		p.check(t, "Resize", n)
	}
	p.resize(t, -1)
	p.resize(t, mostWords+1)
	p.check(t, "Resize")
	p.move(t, 0, 5)
	p.check(t, "Move")
	p.end(t)
	p.check(t, "End")
}

// P14.3

func TestFlip(t *testing.T) {
	for words := range 5 {
		for top := 0; top <= words; top++ {
			for n := range 6 {
				p := filled(t, words, top)
				if e := p.flip(t, n); e != api.OK {
					t.Fatalf("Flip(%d): error %d", n, e)
				}
				p.check(t, "Flip", words, top, n)
				if p.m.Spaces() != 2 || p.m.Held() != words+n {
					t.Errorf("Flip(%d): %d spaces, %d words in use", n, p.m.Spaces(), p.m.Held())
				}
				for _, again := range append(far(), -1, 0, 1, n, words, mostWords, mostWords+1) {
					if e := p.flip(t, again); e != api.ErrArg {
						t.Errorf("Flip(%d) again: error %d", again, e)
					}
				}
				p.check(t, "Flip again", words, top, n)
			}
		}
	}
}

// The errors of mem.Open, in their order, of which nothing comes.
func TestFlipWithoutASpace(t *testing.T) {
	p := filled(t, 6, 4)
	wrong := append(far(), -1000, -2, -1, mostWords+1, mostWords+2, 2*mostWords)
	tryWrong := func() {
		for _, words := range wrong {
			want := api.ErrLong
			if words < 0 {
				want = api.ErrArg
			}
			if e := p.flip(t, words); e != want {
				t.Errorf("Flip(%d): error %d", words, e)
			}
		}
		p.check(t, "Flip")
	}
	tryWrong()
	for p.m.Spaces() < mostSpaces {
		p.m.Open(0)
	}
	tryWrong()
	for _, words := range []int{0, 1, mostWords} {
		if e := p.flip(t, words); e != api.ErrFull {
			t.Errorf("Flip(%d): error %d", words, e)
		}
	}
	p.check(t, "Flip")
	p.m.Close(4711)
	if e := p.flip(t, 3); e != api.OK {
		t.Errorf("Flip: error %d", e)
	}
	p.move(t, 1, 2)
	p.check(t, "Move")
	// There is an old space, and this is told ahead of there being no room.
	if e := p.flip(t, 3); e != api.ErrArg {
		t.Errorf("Flip: error %d", e)
	}
	p.end(t)
	p.check(t, "End")
	if p.m.Spaces() != mostSpaces-1 {
		t.Errorf("%d spaces", p.m.Spaces())
	}
}

// The greatest space is a new one's bound.
func TestFlipToTheGreatestSpace(t *testing.T) {
	p := filled(t, 2, 2)
	if e := p.flip(t, mostWords); e != api.OK || p.got.Size() != mostWords || p.m.Held() != mostWords+2 {
		t.Errorf("Flip: error %d, Size %d", e, p.got.Size())
	}
	p.check(t, "Flip")
	p.end(t)
	if e := p.flip(t, mostWords); e != api.OK || p.m.Held() != 2*mostWords {
		t.Errorf("Flip: error %d", e)
	}
	p.check(t, "Flip")
}

// Without an old space ErrNone is ahead of all other errors.
func TestNoOldSpace(t *testing.T) {
	p := filled(t, 8, 5)
	none := func() {
		t.Helper()
		for _, at := range append(far(), -1, 0, 1, 4, 5, 8) {
			if e := p.read(t, true, at); e != api.ErrNone {
				t.Errorf("ReadOld(%d): error %d", at, e)
			}
			if e := p.write(t, true, at, 7); e != api.ErrNone {
				t.Errorf("WriteOld(%d): error %d", at, e)
			}
			for _, words := range append(far(), -1, 0, 1, 3, 4) {
				if e := p.move(t, at, words); e != api.ErrNone {
					t.Errorf("Move(%d, %d): error %d", at, words, e)
				}
			}
		}
		if e := p.end(t); e != api.ErrNone {
			t.Errorf("End: error %d", e)
		}
		p.check(t, "no old space")
	}
	none()
	p.flip(t, 9)
	p.move(t, 0, 5)
	p.end(t)
	none()
}

// Only allocated words of the old space are read and written, though it has
// more, and the current one too.
func TestReadOldAndWriteOld(t *testing.T) {
	for top := range 6 {
		for _, now := range []int{0, 3, 8} {
			p := filled(t, 6, top)
			p.flip(t, 8)
			if now > 0 {
				p.take(t, now)
			}
			p.fill(t, 500)
			for _, at := range append(far(), -7, -3, -2, -1, 0, 1, 2, 3, 4, 5, 6, 7, 256, 257, 65536) {
				want := api.OK
				if at < 0 || at >= top {
					want = api.ErrBounds
				}
				if e := p.read(t, true, at); e != want {
					t.Errorf("%d words: ReadOld(%d): error %d", top, at, e)
				}
				if e := p.write(t, true, at, uint64(at)); e != want {
					t.Errorf("%d words: WriteOld(%d): error %d", top, at, e)
				}
				p.check(t, "WriteOld", at)
				if want := at >= 0 && at < now; (p.read(t, false, at) == api.OK) != want {
					t.Errorf("%d words: Read(%d)", now, at)
				}
			}
		}
	}
}

// All ranges of all small spaces are moved, or not.
func TestMove(t *testing.T) {
	for top := range 5 {
		for words := range 6 {
			for taken := 0; taken <= words; taken++ {
				for at := -2; at <= top+2; at++ {
					for n := -2; n <= top+2; n++ {
						p := turned(t, top, words)
						if taken > 0 {
							p.take(t, taken)
						}
						p.fill(t, 500)
						p.move(t, at, n)
						p.check(t, "Move", at, n, "of", top, "to", taken, "of", words)
					}
				}
			}
		}
	}
}

// The errors of Move, in their order.
func TestMoveErrors(t *testing.T) {
	p := turned(t, 5, 2)
	for _, c := range []struct {
		at, words int
		want      api.Errno
	}{
		{0, -1, api.ErrBounds},
		{5, -1, api.ErrBounds},
		{0, 0, api.ErrArg},
		{3, 0, api.ErrArg},
		{5, 0, api.ErrArg},
		{6, 0, api.ErrBounds},
		{-1, 0, api.ErrBounds},
		{-1, 1, api.ErrBounds},
		{-1, 7, api.ErrBounds},
		{5, 1, api.ErrBounds},
		{4, 2, api.ErrBounds},
		{0, 6, api.ErrBounds},
		{0, 5, api.ErrFull},
		{0, 3, api.ErrFull},
		{2, 3, api.ErrFull},
		{3, 3, api.ErrBounds},
	} {
		if at, e := p.got.Move(c.at, c.words); at != 0 || e != c.want {
			t.Errorf("Move(%d, %d): %d, error %d, not %d", c.at, c.words, at, e, c.want)
		}
	}
	p.check(t, "Move")
	p.move(t, 3, 2)
	if at, e := p.got.Move(0, 1); at != 0 || e != api.ErrFull {
		t.Errorf("Move: %d, error %d", at, e)
	}
	p.check(t, "Move")
}

// No far range is within the old space, though it may seem to end there.
func TestMoveOfFarRanges(t *testing.T) {
	p := turned(t, 5, 9)
	p.take(t, 2)
	for _, at := range append(far(), -1, 0, 1, 5, 6) {
		for _, n := range append(far(), -1, 0, 1, 2, 5) {
			if at >= 0 && at <= 5 && n >= 0 && n <= 5 {
				continue
			}
			if e := p.move(t, at, n); e != api.ErrBounds {
				t.Errorf("Move(%d, %d): error %d", at, n, e)
			}
		}
		if at < 0 || at > 5 {
			for _, n := range []int{5 - at, -at, 1 - at, 6 - at} {
				if e := p.move(t, at, n); e != api.ErrBounds {
					t.Errorf("Move(%d, %d): error %d", at, n, e)
				}
			}
		}
	}
	p.check(t, "Move")
}

// The same words may be moved again, and words of the old space be written
// behind a move: each move copies what they are then.
func TestMoveAgain(t *testing.T) {
	p := turned(t, 4, 10)
	p.move(t, 1, 2)
	p.write(t, true, 1, 7)
	p.write(t, false, 1, 8)
	p.check(t, "Write")
	p.move(t, 0, 4)
	p.check(t, "Move")
	p.move(t, 1, 2)
	p.check(t, "Move")
	p.move(t, 3, 1)
	p.check(t, "Move")
	p.resize(t, 14)
	p.move(t, 0, 4)
	p.check(t, "Move")
}

func TestEnd(t *testing.T) {
	for top := range 4 {
		for words := range 4 {
			p := turned(t, top, words)
			if top > 0 {
				p.move(t, top-1, 1)
			}
			if e := p.end(t); e != api.OK {
				t.Errorf("End: error %d", e)
			}
			p.check(t, "End", top, words)
			if p.m.Spaces() != 1 || p.m.Held() != words {
				t.Errorf("End: %d spaces, %d words in use", p.m.Spaces(), p.m.Held())
			}
			for range 2 {
				if e := p.end(t); e != api.ErrNone {
					t.Errorf("End again: error %d", e)
				}
			}
			p.check(t, "End again", top, words)
		}
	}
}

// P14.4

// The numbers of steps, written out.
func TestSteps(t *testing.T) {
	m := mem.New()
	var s *semi.Semi
	for _, c := range []struct {
		name string
		want uint64
		call func()
	}{
		{"New", 0, func() { s, _ = semi.New(m, 20) }},
		{"Take", 0, func() { s.Take(10) }},
		{"Take of no word", 0, func() { s.Take(0) }},
		{"Take of too many", 0, func() { s.Take(11) }},
		{"Read", 1, func() { s.Read(9) }},
		{"Read of no word", 0, func() { s.Read(10) }},
		{"Write", 1, func() { s.Write(0, 5) }},
		{"Write of what it is", 1, func() { s.Write(0, 5) }},
		{"Write of no word", 0, func() { s.Write(-1, 5) }},
		{"Resize", 0, func() { s.Resize(500) }},
		{"Resize to fewer", 0, func() { s.Resize(5) }},
		{"Resize to too many", 0, func() { s.Resize(mostWords + 1) }},
		{"ReadOld of no space", 0, func() { s.ReadOld(0) }},
		{"WriteOld of no space", 0, func() { s.WriteOld(0, 5) }},
		{"Move of no space", 0, func() { s.Move(0, 1) }},
		{"End of no space", 0, func() { s.End() }},
		{"Flip to too few", 0, func() { s.Flip(-1) }},
		{"Flip", 0, func() { s.Flip(18) }},
		{"Flip again", 0, func() { s.Flip(18) }},
		{"ReadOld", 1, func() { s.ReadOld(9) }},
		{"ReadOld of no word", 0, func() { s.ReadOld(10) }},
		{"WriteOld", 1, func() { s.WriteOld(9, 6) }},
		{"WriteOld of no word", 0, func() { s.WriteOld(-1, 6) }},
		{"Move of one", 2, func() { s.Move(0, 1) }},
		{"Move of 7", 14, func() { s.Move(3, 7) }},
		{"Move of all", 20, func() { s.Move(0, 10) }},
		{"Move of none", 0, func() { s.Move(0, 0) }},
		{"Move of no words", 0, func() { s.Move(4, 7) }},
		{"Move to no words", 0, func() { s.Move(0, 1) }},
		{"Size", 0, func() { s.Size() }},
		{"Top", 0, func() { s.Top() }},
		{"Room", 0, func() { s.Room() }},
		{"Turning", 0, func() { s.Turning() }},
		{"OldTop", 0, func() { s.OldTop() }},
		{"End", 0, func() { s.End() }},
	} {
		before := m.Steps()
		c.call()
		if got := m.Since(before); got != (api.Wide{Lo: c.want}) {
			t.Errorf("%s: steps %v, not %d", c.name, got, c.want)
		}
	}
}

// The words of both spaces are in use, also those that are not allocated.
func TestHeld(t *testing.T) {
	m := mem.New()
	m.Open(1000)
	s, _ := semi.New(m, 20)
	for _, c := range []struct {
		name         string
		held, spaces int
		call         func()
	}{
		{"New", 1020, 2, func() {}},
		{"Take", 1020, 2, func() { s.Take(15) }},
		{"Resize", 1030, 2, func() { s.Resize(30) }},
		{"Resize to fewer", 1030, 2, func() { s.Resize(29) }},
		{"Flip", 1037, 3, func() { s.Flip(7) }},
		{"Flip again", 1037, 3, func() { s.Flip(8) }},
		{"Move", 1037, 3, func() { s.Move(0, 7) }},
		{"Resize in a collection", 1130, 3, func() { s.Resize(100) }},
		{"End", 1100, 2, func() { s.End() }},
		{"End again", 1100, 2, func() { s.End() }},
		{"Flip to nothing", 1100, 3, func() { s.Flip(0) }},
		{"End", 1000, 2, func() { s.End() }},
	} {
		c.call()
		if m.Held() != c.held || m.Spaces() != c.spaces {
			t.Errorf("%s: %d words in use, %d spaces, not %d and %d", c.name, m.Held(), m.Spaces(), c.held, c.spaces)
		}
	}
	if m.High() != 1130 {
		t.Errorf("High: %d", m.High())
	}
}

// Long runs of calls, with all words and steps.
func TestRuns(t *testing.T) {
	seen := map[string]int{}
	for seed := range noise(20) {
		p := newPair(t, mem.New(), int(seed))
		p.run(t, seed, 1200, func(call string, e api.Errno) {
			seen[fmt.Sprint(call, e)]++
			p.check(t, call)
		})
	}
	for _, call := range []string{
		"Take0", "Take1", "Take3", "Read0", "Read11", "Write0", "Write11", "Resize0", "Resize1", "Resize7", "Flip0", "Flip1", "Flip7",
		"ReadOld0", "ReadOld4", "ReadOld11", "WriteOld0", "WriteOld4", "WriteOld11", "Move0", "Move1", "Move3", "Move4", "Move11", "End0", "End4",
	} {
		if seen[call] < 20 {
			t.Errorf("%s %d times only", call, seen[call])
		}
	}
}

// P14.5

// The words that Take and Move allocate are apart, as long as the space is the
// current one.
func TestWordsAreApart(t *testing.T) {
	for seed := range noise(10) {
		s, _ := semi.New(mem.New(), 300)
		s.Take(300)
		for i := range 300 {
			s.Write(i, uint64(1000+i))
		}
		s.Flip(seed.below(100))
		owner := map[int]int{}
		for i := range 200 {
			s.Resize(s.Top() + seed.below(9))
			n := 1 + seed.below(5)
			at, e := s.Take(n)
			if seed.below(2) == 0 {
				at, e = s.Move(seed.below(296), n)
			}
			if e != api.OK {
				continue
			}
			for w := at; w < at+n; w++ {
				if w < 0 || w >= s.Size() || owner[w] != 0 {
					t.Fatalf("word %d is allocated again", w)
				}
				owner[w] = i + 1
			}
		}
		if len(owner) < 200 {
			t.Errorf("%d words only", len(owner))
		}
	}
}

// A written word stays what it is, whatever is called beside.
func TestWordsStay(t *testing.T) {
	for seed := range noise(10) {
		p := filled(t, 12, 8)
		words := slices.Clone(p.want.words)
		for range 300 {
			p.take(t, seed.some(2))
			p.resize(t, seed.some(40))
			p.write(t, false, 8+seed.below(20), seed.word())
			p.write(t, true, seed.below(20), seed.word())
			p.move(t, seed.below(8), seed.below(8))
			p.end(t)
			for at, want := range words {
				if w, e := p.got.Read(at); w != want || e != api.OK {
					t.Fatalf("Read(%d): %d, error %d, not %d", at, w, e, want)
				}
			}
		}
	}
}

// P1

// Calls end and do not panic, whatever was done to the spaces, even if they do
// not exist any more.
func TestCallsEndForAllSpaces(t *testing.T) {
	for seed := range noise(200) {
		m := mem.New()
		s, _ := semi.New(m, 1+seed.below(20))
		s.Take(seed.below(20))
		if seed.below(2) == 0 {
			s.Flip(seed.below(20))
			s.Take(seed.below(20))
		}
		for id := range 2 {
			if seed.below(2) == 0 {
				m.Close(id)
			}
			if seed.below(2) == 0 {
				m.Open(seed.below(9))
			}
		}
		for range 300 {
			at, n := seed.some(20), seed.some(20)
			s.Take(n)
			s.Read(at)
			s.Write(at, seed.word())
			s.Resize(seed.near(30))
			s.ReadOld(at)
			s.WriteOld(at, seed.word())
			s.Move(at, n)
			s.Size()
			s.Top()
			s.Room()
			s.Turning()
			s.OldTop()
			if seed.below(9) == 0 {
				s.End()
			}
			if seed.below(9) == 0 {
				s.Flip(seed.near(30))
			}
		}
	}
}

// P2 (rules 3 and 4)

func TestFailedCallsHaveNoEffect(t *testing.T) {
	for seed := range noise(8) {
		m := mem.New()
		p := newPair(t, m, 9)
		look := func() string {
			a, _ := m.Look(0)
			b, _ := m.Look(1)
			s := p.got
			return fmt.Sprint(a, b, counted(m), s.Size(), s.Top(), s.Room(), s.Turning(), s.OldTop())
		}
		before, failed := look(), 0
		p.run(t, 100+seed, 800, func(call string, e api.Errno) {
			now := look()
			if e != api.OK || call == "ask" {
				failed++
				if now != before {
					t.Fatalf("%s, error %d, changed %s to %s", call, e, before, now)
				}
			}
			before = now
		})
		if failed < 100 {
			t.Errorf("%d calls failed only", failed)
		}
	}
}

// The same calls have the same results.
func TestTheSameCalls(t *testing.T) {
	run := func() []string {
		m := mem.New()
		p := newPair(t, m, 7)
		var out []string
		p.run(t, 200, 500, func(string, api.Errno) { out = append(out, p.tell(), counted(m)) })
		return out
	}
	if !slices.Equal(run(), run()) {
		t.Errorf("the same calls differ")
	}
}

// Semis in one Mem, and in others, leave each other alone, and the other
// spaces of their Mem too.
func TestSemisAreApart(t *testing.T) {
	m := mem.New()
	other, _ := m.Open(5)
	m.Write(other, 4, 77)
	list := []*pair{newPair(t, m, 6), newPair(t, m, 9), newPair(t, mem.New(), 6), newPair(t, m, 0)}
	for i := range 60 {
		for at, p := range list {
			p.run(t, noise(1000*i+at), 15, func(string, api.Errno) {})
			for _, p := range list {
				p.other = p.m.Held() - p.want.held()
				p.check(t, "a call on another Semi")
			}
		}
	}
	if words, _ := m.Look(other); !slices.Equal(words, []uint64{0, 0, 0, 0, 77}) {
		t.Errorf("another space: %v", words)
	}
	held := 5
	for _, p := range []*pair{list[0], list[1], list[3]} {
		held += p.want.held()
	}
	if m.Held() != held {
		t.Errorf("%d words in use, not %d", m.Held(), held)
	}
}

// A Semi shows the chapter's methods and nothing else, and all that it keeps
// beside its Mem is numbers and whether it turns.
func TestNothingElseIsExported(t *testing.T) {
	of := reflect.TypeFor[*semi.Semi]()
	var got []string
	for i := range of.NumMethod() {
		got = append(got, of.Method(i).Name)
	}
	want := []string{"End", "Flip", "Move", "OldTop", "Read", "ReadOld", "Resize", "Room", "Size", "Take", "Top", "Turning", "Write", "WriteOld"}
	if !slices.Equal(got, want) {
		t.Errorf("methods: %v", got)
	}
	plain(t, of.Elem())
}

// plain fails unless all fields of a struct are unexported, and are a Mem, a
// number, a bool or such a struct.
func plain(t *testing.T, of reflect.Type) {
	t.Helper()
	for i := range of.NumField() {
		f := of.Field(i)
		switch {
		case f.IsExported() || f.Anonymous:
			t.Errorf("field %s is exported", f.Name)
		case f.Type.Kind() == reflect.Struct:
			plain(t, f.Type)
		case f.Type != reflect.TypeFor[*mem.Mem]() && f.Type.Kind() != reflect.Int && f.Type.Kind() != reflect.Bool:
			t.Errorf("field %s of type %v", f.Name, f.Type)
		}
	}
}
