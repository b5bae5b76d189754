package pool_test

import (
	"fmt"
	"math"
	"reflect"
	"slices"
	"testing"

	"haymow/api"
	"haymow/chain"
	"haymow/mem"
	"haymow/pool"
)

// The calls have these signatures exactly.
var (
	_ func(*mem.Mem, int) (*pool.Pool, api.Errno)    = pool.New
	_ func(*pool.Pool) int                           = (*pool.Pool).Count
	_ func(*pool.Pool) int                           = (*pool.Pool).Made
	_ func(*pool.Pool) int                           = (*pool.Pool).Space
	_ func(*pool.Pool, int, int) chain.Table         = (*pool.Pool).Table
	_ func(*pool.Pool) (int, api.Errno)              = (*pool.Pool).Take
	_ func(*pool.Pool, int) bool                     = (*pool.Pool).Taken
	_ func(*pool.Pool, int) int                      = (*pool.Pool).Gen
	_ func(*pool.Pool, int) api.Errno                = (*pool.Pool).Give
	_ func(*pool.Pool, int, int) (uint64, api.Errno) = (*pool.Pool).Get
	_ func(*pool.Pool, int, int, uint64) api.Errno   = (*pool.Pool).Set
)

// The chapter's bounds.
const (
	mostWords  = 60
	mostIds    = 1048576
	mostSpaces = 262144
)

// The example of the chapter.
func TestExample(t *testing.T) {
	p, e := pool.New(mem.New(), 1)
	if e != api.OK {
		t.Fatalf("New: error %d", e)
	}
	for want := 1; want <= 2; want++ {
		if id, e := p.Take(); id != want || e != api.OK {
			t.Errorf("Take: %d, error %d", id, e)
		}
	}
	for id := 1; id <= 2; id++ {
		if e := p.Give(id); e != api.OK {
			t.Errorf("Give(%d): error %d", id, e)
		}
	}
	if id, e := p.Take(); id != 2 || e != api.OK || p.Gen(2) != 1 {
		t.Errorf("Take: %d, error %d, generation %d", id, e, p.Gen(2))
	}
}

// P10.1

func TestNew(t *testing.T) {
	m := mem.New()
	for words := 1; words <= mostWords; words++ {
		p, e := pool.New(m, words)
		if e != api.OK || p == nil {
			t.Fatalf("New(%d): %v, error %d", words, p, e)
		}
		if p.Count() != 0 || p.Made() != 0 || p.Space() != words-1 {
			t.Errorf("New(%d): Count %d, Made %d, Space %d", words, p.Count(), p.Made(), p.Space())
		}
		if size, e := m.Size(p.Space()); size != 0 || e != api.OK || m.Spaces() != words || m.Held() != 0 {
			t.Errorf("New(%d): %d words, error %d, %d spaces, %d in use", words, size, e, m.Spaces(), m.Held())
		}
		for _, id := range append(far(), -1, 0, 1, 2) {
			if p.Taken(id) || p.Gen(id) != 0 || p.Give(id) != api.ErrNone {
				t.Errorf("New(%d): there is a number %d", words, id)
			}
		}
	}
}

func TestNewOfNoMem(t *testing.T) {
	for _, words := range append(far(), -1, 0, 1, 2, 60, 61) {
		if p, e := pool.New(nil, words); p != nil || e != api.ErrArg {
			t.Errorf("New(nil, %d): %v, error %d", words, p, e)
		}
	}
}

func TestNewOfTooFewOrTooManyWords(t *testing.T) {
	m := mem.New()
	m.Open(3)
	before := counted(m)
	for _, words := range append(far(), -60, -2, -1, 0, 61, 62, 63, 64, 65, 257, 4096) {
		if p, e := pool.New(m, words); p != nil || e != api.ErrArg {
			t.Errorf("New(%d): %v, error %d", words, p, e)
		}
	}
	if counted(m) != before {
		t.Errorf("New: %s, not %s", counted(m), before)
	}
}

// The error of mem.Open; that of the arguments is ahead of it.
func TestNewWithoutASpace(t *testing.T) {
	m := mem.New()
	for range mostSpaces {
		m.Open(0)
	}
	before := counted(m)
	if p, e := pool.New(m, 1); p != nil || e != api.ErrFull {
		t.Errorf("New: %v, error %d", p, e)
	}
	if p, e := pool.New(m, 0); p != nil || e != api.ErrArg {
		t.Errorf("New(0): %v, error %d", p, e)
	}
	if counted(m) != before {
		t.Errorf("New: %s, not %s", counted(m), before)
	}
	m.Close(4711)
	if p, e := pool.New(m, 1); e != api.OK || p.Space() != 4711 {
		t.Errorf("New: %v, error %d", p, e)
	}
}

func TestTable(t *testing.T) {
	m := mem.New()
	m.Open(0)
	for words := 1; words <= mostWords; words++ {
		p, _ := pool.New(m, words)
		for next := -3; next <= words+3; next++ {
			for prev := -3; prev <= words+3; prev++ {
				want := chain.Table{M: m, Space: words, Width: words + 1, Next: next + 1, Prev: prev + 1}
				if got := p.Table(next, prev); got != want {
					t.Fatalf("%d words: Table(%d, %d): %v", words, next, prev, got)
				}
			}
		}
	}
}

// The greatest number has none behind it, and no table is Right by a far one.
func TestTableOfFarWords(t *testing.T) {
	m := mem.New()
	p, _ := pool.New(m, 3)
	for _, no := range append(far(), 1<<32-1, 1<<62-1) {
		for _, word := range append(far(), 0, 1, 2) {
			for _, x := range []chain.Table{p.Table(no, word), p.Table(word, no)} {
				if x.Right() || x.M != m || x.Space != 0 || x.Width != 4 {
					t.Errorf("Table of %d and %d: %v, Right %v", no, word, x, x.Right())
				}
			}
		}
		if no != math.MaxInt {
			if x := p.Table(no, 0); x.Next != no+1 || x.Prev != 1 {
				t.Errorf("Table(%d, 0): %v", no, x)
			}
			if x := p.Table(0, no); x.Next != 1 || x.Prev != no+1 {
				t.Errorf("Table(0, %d): %v", no, x)
			}
		}
	}
}

// Entry and word of a table are those of the pool.
func TestTableHasTheEntries(t *testing.T) {
	for _, words := range []int{2, 3, 5, 60} {
		for next := range words {
			for prev := range words {
				if next == prev {
					continue
				}
				p := newPair(t, mem.New(), words)
				p.takeAll(t, 11)
				x := p.got.Table(next, prev)
				if x.Entries() != 16 {
					t.Fatalf("%d entries", x.Entries())
				}
				var c chain.Chain
				list := []int{4, 11, 1, 8, 9}
				for i, id := range list {
					c, _ = x.Push(c, id)
					if i > 0 {
						p.want.entries[list[i-1]-1].words[next] = uint64(id)
						p.want.entries[id-1].words[prev] = uint64(list[i-1])
					}
				}
				p.check(t, "Push", words, next, prev)
				if got := slices.Collect(x.All(c)); !slices.Equal(got, list) {
					t.Fatalf("All: %v", got)
				}
				p.set(t, 1, next, 4)
				if id, e := x.After(1); id != 4 || e != api.OK {
					t.Errorf("After(1): %d, error %d", id, e)
				}
			}
		}
	}
}

// P10.2

// The number that was returned last comes first, and new ones come when there
// is none.
func TestTakeOrder(t *testing.T) {
	p := newPair(t, mem.New(), 2)
	p.order(t, 1, 2, 3, 4, 5, 6, 7, 8, 9, 10)
	p.giveAll(t, 3, 9, 1, 10)
	p.order(t, 10, 1)
	p.giveAll(t, 5, 1)
	p.order(t, 1, 5, 9, 3, 11, 12)
	p.giveAll(t, 12)
	p.order(t, 12, 13)
	p.check(t, "Take")
	p.giveAll(t, 1, 2, 3, 4, 5, 6, 7, 8, 9, 10, 11, 12, 13)
	if p.got.Count() != 0 || p.got.Made() != 13 {
		t.Errorf("Count %d, Made %d", p.got.Count(), p.got.Made())
	}
	p.order(t, 13, 12, 11, 10, 9, 8, 7, 6, 5, 4, 3, 2, 1, 14)
	p.check(t, "Take")
}

// All words of an entry that is taken again are 0, and no others are changed.
func TestTakenWordsAreZero(t *testing.T) {
	for words := 1; words <= mostWords; words++ {
		p := newPair(t, mem.New(), words)
		p.takeAll(t, 5)
		for id := 1; id <= 5; id++ {
			for word := range words {
				p.set(t, id, word, math.MaxUint64-uint64(100*id+word))
			}
		}
		p.check(t, "Set")
		for _, id := range []int{3, 1, 5} {
			p.giveAll(t, id)
			p.order(t, id)
			p.check(t, "Take", id)
		}
	}
}

// So are those of a new number, though its words were written by a table.
func TestTakenWordsAreZeroOfNewNumbers(t *testing.T) {
	p := newPair(t, mem.New(), 3)
	p.takeAll(t, 1)
	x := p.got.Table(1, 2)
	var c chain.Chain
	for _, id := range []int{5, 2, 8, 3, 4, 7, 6} {
		c, _ = x.Push(c, id)
	}
	for range 9 {
		p.take(t)
		p.check(t, "Take")
	}
}

// Entries that are not in use may be linked by a table: the pool keeps what it
// knows of them.
func TestEntriesNotInUseAreLinked(t *testing.T) {
	for _, links := range [][2]int{{0, 1}, {1, 0}, {1, 2}, {2, 0}} {
		p := newPair(t, mem.New(), 3)
		p.takeAll(t, 8)
		x := p.got.Table(links[0], links[1])
		var c chain.Chain
		for id := 1; id <= 8; id++ {
			c, _ = x.Push(c, id)
		}
		for _, id := range []int{2, 7, 4, 8, 1} {
			if e := p.got.Give(id); e != api.OK || p.want.give(id) != api.OK {
				t.Fatalf("Give(%d): error %d", id, e)
			}
			c, _ = x.Drop(c, 9-id)
			c, _ = x.Push(c, 9-id)
		}
		for id := 1; id <= 8; id++ {
			p.ask(t, id)
			for word := range 3 {
				if p.want.taken(id) {
					p.set(t, id, word, uint64(id))
				}
			}
		}
		p.check(t, "Give")
		p.order(t, 1, 8, 4, 7, 2, 9)
		p.check(t, "Take")
	}
}

func TestGive(t *testing.T) {
	p := newPair(t, mem.New(), 1)
	p.takeAll(t, 9)
	for _, id := range append(far(), -1, 0, 10, 11, 16, 17) {
		if e := p.give(t, id); e != api.ErrNone {
			t.Errorf("Give(%d): error %d", id, e)
		}
	}
	p.check(t, "Give")
	for _, id := range []int{4, 9, 1} {
		if e := p.give(t, id); e != api.OK {
			t.Errorf("Give(%d): error %d", id, e)
		}
		for range 2 {
			if e := p.give(t, id); e != api.ErrNone {
				t.Errorf("Give(%d) again: error %d", id, e)
			}
		}
		p.check(t, "Give", id)
	}
	if p.got.Count() != 6 || p.got.Made() != 9 || !slices.Equal(p.inUse(), []int{2, 3, 5, 6, 7, 8}) {
		t.Errorf("Count %d, Made %d, in use %v", p.got.Count(), p.got.Made(), p.inUse())
	}
}

// Generations are counted beyond what a few bits hold.
func TestGen(t *testing.T) {
	p, _ := pool.New(mem.New(), 1)
	p.Take()
	p.Take()
	p.Give(1)
	p.Take()
	for n := range 5000000 {
		if p.Gen(2) != n {
			t.Fatalf("after %d times: Gen %d", n, p.Gen(2))
		}
		p.Give(2)
		if id, e := p.Take(); id != 2 || e != api.OK {
			t.Fatalf("after %d times: Take %d, error %d", n, id, e)
		}
	}
	if p.Gen(1) != 1 || !p.Taken(1) || p.Count() != 2 || p.Made() != 2 {
		t.Errorf("Gen %d, Taken %v, Count %d, Made %d", p.Gen(1), p.Taken(1), p.Count(), p.Made())
	}
	for _, id := range append(far(), -2, -1, 0, 3, 4, 8, 9) {
		if p.Gen(id) != 0 || p.Taken(id) {
			t.Errorf("number %d: Gen %d, Taken %v", id, p.Gen(id), p.Taken(id))
		}
	}
}

// ErrNone is ahead of ErrIndex, and together with an error a word is 0.
func TestGetAndSetErrors(t *testing.T) {
	for _, words := range []int{1, 2, 60} {
		p := newPair(t, mem.New(), words)
		p.takeAll(t, 10)
		p.giveAll(t, 2, 10)
		for id := 1; id <= 10; id++ {
			for word := range words {
				p.set(t, id, word, math.MaxUint64)
			}
		}
		wrong := append(far(), -60, -2, -1, words, words+1, words+2, 61, 64)
		for _, word := range append(wrong, 0, words-1) {
			for _, id := range append(far(), -1, 0, 2, 10, 11, 12, 16, 17) {
				if e := p.get(t, id, word); e != api.ErrNone {
					t.Fatalf("Get(%d, %d): error %d", id, word, e)
				}
				if e := p.set(t, id, word, 7); e != api.ErrNone {
					t.Fatalf("Set(%d, %d): error %d", id, word, e)
				}
			}
		}
		for _, word := range wrong {
			for _, id := range []int{1, 3, 9} {
				if e := p.get(t, id, word); e != api.ErrIndex {
					t.Fatalf("Get(%d, %d): error %d", id, word, e)
				}
				if e := p.set(t, id, word, 7); e != api.ErrIndex {
					t.Fatalf("Set(%d, %d): error %d", id, word, e)
				}
			}
		}
		p.check(t, "failed calls")
	}
}

// Each bit of each word is stored on its own.
func TestSetAndGet(t *testing.T) {
	for _, words := range []int{1, 2, 7, 60} {
		p := newPair(t, mem.New(), words)
		p.takeAll(t, 9)
		for bit := range 64 {
			for word := range words {
				for _, id := range []int{1, 5, 9} {
					p.set(t, id, word, 1<<bit+uint64(word+id)<<8)
					p.get(t, id, word)
				}
			}
			p.check(t, "Set", bit)
		}
		p.set(t, 5, words-1, math.MaxUint64)
		p.check(t, "Set")
	}
}

// P10.3

// The space has no words, and then 8 entries, 16, 32 and so on.
func TestGrowth(t *testing.T) {
	for words := 1; words <= mostWords; words++ {
		m := mem.New()
		p := newPair(t, m, words)
		for id := 1; id <= 300; id++ {
			p.take(t)
			want := 8
			for want < id {
				want *= 2
			}
			if size, _ := m.Size(p.id); size != want*(words+1) || m.Held() != size || m.High() != size {
				t.Fatalf("%d words, entry %d: %d words of space, %d in use, not %d", words, id, size, m.Held(), want*(words+1))
			}
		}
		for id := 300; id > 0; id-- {
			p.give(t, id)
		}
		p.takeAll(t, 300)
		if m.Held() != 512*(words+1) || p.got.Made() != 300 {
			t.Errorf("taken again: %d words in use, Made %d", m.Held(), p.got.Made())
		}
	}
}

// A space that is greater than the pool made it has room already, and is
// doubled as well.
func TestGrowthOfAGreaterSpace(t *testing.T) {
	m := mem.New()
	p, _ := pool.New(m, 2)
	p.Take()
	m.Grow(0, 3*20+2)
	for id := 2; id <= 40; id++ {
		p.Take()
		want := 62
		if id > 20 {
			want = 120
		}
		if m.Held() != want {
			t.Fatalf("entry %d: %d words in use, not %d", id, m.Held(), want)
		}
	}
}

// The greatest number, or the one that the space cannot grow for.
func TestTheMostEntries(t *testing.T) {
	for words, most := range map[int]int{
		1: mostIds, 2: mostIds, 3: mostIds, 4: 524288, 7: 524288, 8: 262144, 15: 262144, 16: 131072, 31: 131072, 32: 65536, 60: 65536,
	} {
		m := mem.New()
		p, _ := pool.New(m, words)
		for want := 1; want <= most; want++ {
			if id, e := p.Take(); id != want || e != api.OK {
				t.Fatalf("%d words: Take: %d, error %d, not %d", words, id, e, want)
			}
		}
		if m.Held() != most*(words+1) {
			t.Errorf("%d words: %d in use", words, m.Held())
		}
		full(t, m, p, most)
		p.Set(most, words-1, 5)
		p.Set(1, 0, 6)
		for _, id := range []int{1, most, most / 2} {
			if e := p.Give(id); e != api.OK || p.Gen(id) != 1 {
				t.Errorf("%d words: Give(%d): error %d", words, id, e)
			}
		}
		for _, want := range []int{most / 2, most, 1} {
			if id, e := p.Take(); id != want || e != api.OK || p.Gen(id) != 1 {
				t.Errorf("%d words: Take: %d, error %d, not %d", words, id, e, want)
			}
		}
		if w, e := p.Get(most, words-1); w != 0 || e != api.OK {
			t.Errorf("%d words: Get: %d, error %d", words, w, e)
		}
		full(t, m, p, most)
	}
}

// full fails unless no further entry can be taken, and nothing comes of it.
func full(t *testing.T, m *mem.Mem, p *pool.Pool, most int) {
	t.Helper()
	before := counted(m)
	for range 2 {
		if n := steps(m, func() {
			if id, e := p.Take(); id != 0 || e != api.ErrFull {
				t.Errorf("Take: %d, error %d", id, e)
			}
		}); n > 1 {
			t.Errorf("Take: %d steps", n)
		}
	}
	if p.Count() != most || p.Made() != most || counted(m) != before {
		t.Errorf("Take: Count %d, Made %d, %s, not %s", p.Count(), p.Made(), counted(m), before)
	}
}

// All numbers are returned and taken again, the last one first.
func TestTheMostEntriesAgain(t *testing.T) {
	p, _ := pool.New(mem.New(), 1)
	for id := 1; id <= mostIds; id++ {
		p.Take()
		p.Set(id, 0, uint64(id))
	}
	for id := 1; id <= mostIds; id++ {
		if w, _ := p.Get(id, 0); w != uint64(id) || p.Give(id) != api.OK {
			t.Fatalf("number %d: word %d", id, w)
		}
	}
	for want := mostIds; want >= 1; want-- {
		id, e := p.Take()
		w, f := p.Get(id, 0)
		if id != want || e != api.OK || w != 0 || f != api.OK || p.Gen(id) != 1 {
			t.Fatalf("Take: %d, error %d, word %d, generation %d, not %d", id, e, w, p.Gen(id), want)
		}
	}
}

// The numbers of steps, written out.
func TestSteps(t *testing.T) {
	for _, words := range []int{1, 2, 60} {
		m := mem.New()
		var p *pool.Pool
		if n := steps(m, func() { p, _ = pool.New(m, words) }); n != 0 {
			t.Errorf("New: %d steps", n)
		}
		for id := range 20 {
			if n := steps(m, func() { p.Take() }); n > 3+words {
				t.Errorf("Take of %d: %d steps", id+1, n)
			}
		}
		p.Give(3)
		for _, c := range []struct {
			name        string
			least, most int
			call        func()
		}{
			{"Taken", 1, 1, func() { p.Taken(1) }},
			{"Taken of the last", 1, 1, func() { p.Taken(20) }},
			{"Taken of one not in use", 1, 1, func() { p.Taken(3) }},
			{"Taken of 0", 0, 0, func() { p.Taken(0) }},
			{"Taken of one not created", 0, 0, func() { p.Taken(21) }},
			{"Gen", 1, 1, func() { p.Gen(1) }},
			{"Gen of the last", 1, 1, func() { p.Gen(20) }},
			{"Gen of one not in use", 1, 1, func() { p.Gen(3) }},
			{"Gen of 0", 0, 0, func() { p.Gen(0) }},
			{"Gen of one not created", 0, 0, func() { p.Gen(21) }},
			{"Give", 3, 3, func() { p.Give(7) }},
			{"Give of the first", 3, 3, func() { p.Give(1) }},
			{"Give of one not in use", 0, 1, func() { p.Give(7) }},
			{"Give of one not created", 0, 1, func() { p.Give(21) }},
			{"Get", 2, 2, func() { p.Get(2, 0) }},
			{"Get of the last", 2, 2, func() { p.Get(20, words-1) }},
			{"Get of one not in use", 0, 1, func() { p.Get(7, 0) }},
			{"Get of one not created", 0, 1, func() { p.Get(21, 0) }},
			{"Get of no word", 0, 1, func() { p.Get(2, words) }},
			{"Set", 2, 2, func() { p.Set(2, 0, 5) }},
			{"Set of the last", 2, 2, func() { p.Set(20, words-1, 5) }},
			{"Set of one not in use", 0, 1, func() { p.Set(7, 0, 5) }},
			{"Set of one not created", 0, 1, func() { p.Set(21, 0, 5) }},
			{"Set of no word", 0, 1, func() { p.Set(2, -1, 5) }},
			{"Take again", 0, 3 + words, func() { p.Take() }},
			{"Count", 0, 3 + words, func() { p.Count() }},
			{"Made", 0, 3 + words, func() { p.Made() }},
			{"Space", 0, 3 + words, func() { p.Space() }},
			{"Table", 0, 3 + words, func() { p.Table(0, 1) }},
		} {
			if n := steps(m, c.call); n < c.least || n > c.most {
				t.Errorf("%d words: %s: %d steps", words, c.name, n)
			}
		}
	}
}

// Long runs of calls, with all words and steps.
func TestRuns(t *testing.T) {
	for seed := range noise(12) {
		words := []int{1, 2, 3, 5}[seed%4]
		p := newPair(t, mem.New(), words)
		seen := map[string]int{}
		p.run(t, seed, 1500, func(call string, e api.Errno) {
			seen[fmt.Sprint(call, e)]++
			p.check(t, call)
		})
		for _, call := range []string{"Take0", "Give0", "Give4", "Get0", "Get4", "Get32", "Set0", "Set4", "Set32", "ask0"} {
			if seen[call] < 5 {
				t.Errorf("seed %d: %s %d times only", seed, call, seen[call])
			}
		}
		if p.got.Made() < 50 {
			t.Errorf("seed %d: %d numbers only", seed, p.got.Made())
		}
	}
}

// P10.4

func TestNumbersAreDistinct(t *testing.T) {
	for seed := range noise(6) {
		p, _ := pool.New(mem.New(), 1)
		inUse, seen := map[int]bool{}, map[[2]int]bool{}
		var list []int
		for i := range 20000 {
			if n := len(list); n > 0 && seed.below(10) < 4+i/1000%3 {
				at := seed.below(n)
				id := list[at]
				list[at] = list[n-1]
				list = list[:n-1]
				delete(inUse, id)
				if e := p.Give(id); e != api.OK {
					t.Fatalf("Give(%d): error %d", id, e)
				}
				continue
			}
			id, e := p.Take()
			at := [2]int{id, p.Gen(id)}
			if e != api.OK || inUse[id] || seen[at] || id < 1 || id > p.Made() {
				t.Fatalf("Take: %d, error %d, generation %d", id, e, p.Gen(id))
			}
			inUse[id], seen[at] = true, true
			list = append(list, id)
			if p.Count() != len(list) {
				t.Fatalf("Count: %d, not %d", p.Count(), len(list))
			}
		}
	}
}

// P1

// Calls end and do not panic, whatever was done to the space, even if it does
// not exist any more.
func TestCallsEndForAllSpaces(t *testing.T) {
	for seed := range noise(200) {
		m := mem.New()
		p, _ := pool.New(m, 1+seed.below(4))
		for range 12 {
			p.Take()
		}
		for _, id := range []int{4, 1, 9, 2} {
			p.Give(id)
		}
		words, _ := m.Look(0)
		for at := range words {
			if w := seed.word(); seed.below(2) == 0 {
				m.Write(0, at, w>>seed.below(64))
			}
		}
		switch seed.below(4) {
		case 0:
			m.Close(0)
		case 1:
			m.Close(0)
			m.Open(seed.below(30))
		}
		for range 300 {
			id, word := seed.some(20), seed.some(4)
			p.Take()
			p.Taken(id)
			p.Gen(id)
			p.Give(id)
			p.Get(id, word)
			p.Set(id, word, seed.word())
			x := p.Table(word, seed.some(4))
			x.Entries()
			x.Push(chain.Chain{}, id)
			p.Count()
			p.Made()
		}
	}
}

// P2 (rules 3 and 4)

func TestFailedCallsHaveNoEffect(t *testing.T) {
	for seed := range noise(6) {
		m := mem.New()
		p := newPair(t, m, 2)
		look := func() string {
			words, _ := m.Look(p.id)
			return fmt.Sprint(words, m.Held(), m.High(), m.Spaces(), p.got.Count(), p.got.Made(), p.got.Space())
		}
		before, failed := look(), 0
		p.run(t, 100+seed, 600, func(call string, e api.Errno) {
			now := look()
			if e != api.OK || call == "ask" || call == "Get" {
				failed++
				if now != before {
					t.Fatalf("%s, error %d, changed %s to %s", call, e, before, now)
				}
			}
			before = now
		})
		if failed < 100 {
			t.Errorf("%d calls failed only", failed)
		}
	}
}

// The same calls have the same results.
func TestTheSameCalls(t *testing.T) {
	run := func() []string {
		m := mem.New()
		p := newPair(t, m, 3)
		var out []string
		p.run(t, 200, 500, func(string, api.Errno) { out = append(out, p.tell(), counted(m)) })
		return out
	}
	if !slices.Equal(run(), run()) {
		t.Errorf("the same calls differ")
	}
}

// Pools in one Mem, and in others, leave each other alone.
func TestPoolsAreApart(t *testing.T) {
	m := mem.New()
	other, _ := m.Open(5)
	m.Write(other, 4, 77)
	pools := []*pair{newPair(t, m, 2), newPair(t, m, 2), newPair(t, mem.New(), 2), newPair(t, m, 7)}
	for i := range 40 {
		for at, p := range pools {
			p.run(t, noise(1000*i+at), 20, func(string, api.Errno) {})
			for _, p := range pools {
				p.check(t, "a call on another pool")
			}
		}
	}
	if words, _ := m.Look(other); !slices.Equal(words, []uint64{0, 0, 0, 0, 77}) {
		t.Errorf("another space: %v", words)
	}
	if m.Spaces() != 4 {
		t.Errorf("%d spaces", m.Spaces())
	}
}

// All that a Pool keeps beside its Mem is numbers, and it shows the chapter's
// methods and nothing else.
func TestNothingElseIsExported(t *testing.T) {
	of := reflect.TypeFor[*pool.Pool]()
	var got []string
	for i := range of.NumMethod() {
		got = append(got, of.Method(i).Name)
	}
	if want := []string{"Count", "Gen", "Get", "Give", "Made", "Set", "Space", "Table", "Take", "Taken"}; !slices.Equal(got, want) {
		t.Errorf("methods: %v", got)
	}
	for i := range of.Elem().NumField() {
		f := of.Elem().Field(i)
		if f.IsExported() || f.Anonymous || f.Type != reflect.TypeFor[int]() && f.Type != reflect.TypeFor[*mem.Mem]() {
			t.Errorf("field %s of type %v", f.Name, f.Type)
		}
	}
}
