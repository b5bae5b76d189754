package chain_test

import (
	"math"
	"slices"
	"testing"

	"haymow/api"
	"haymow/chain"
	"haymow/mem"
	"haymow/meter"
)

// noise goes through numbers that follow no short rule, the same ones each time.
type noise uint64

func (s *noise) below(n int) int {
	*s = *s*6364136223846793005 + 1442695040888963407
	return int(uint64(*s)>>33) % n
}

// word returns one of 64 bits.
func (s *noise) word() uint64 {
	s.below(1)
	return uint64(*s) ^ uint64(*s)>>31
}

// far are numbers that are no entry, no space and no word of one, of which some
// would be when their upper bits are dropped.
func far() []int {
	return []int{math.MinInt, math.MinInt + 1, -1 << 62, -1 << 32, 1 - 1<<32, -100000, 100000, 1 << 31, 1 << 32, 1<<32 + 1, 1<<32 + 2, 1 << 58, 1 << 61, 1<<61 + 1, 1 << 62, 1<<62 + 1, math.MaxInt - 1, math.MaxInt}
}

// bed is a space with entries, beside other spaces, and what should be in it
// and on its meter.
type bed struct {
	m                  *mem.Mem
	space, width, size int
	words, other       []uint64
	reads, writes      int
}

// newBed opens a space that has so many entries, and spare words behind them,
// all of noise.
func newBed(seed noise, width, entries, spare int) *bed {
	b := &bed{m: mem.New(), space: 1, width: width, size: entries}
	for id, n := range []int{7, entries*width + spare, 200} {
		b.m.Open(n)
		for at := range n {
			w := seed.word()
			b.m.Write(id, at, w)
			if id == b.space {
				b.words = append(b.words, w)
			} else {
				b.other = append(b.other, w)
			}
		}
	}
	b.writes = int(b.m.Of(meter.Writes).Lo)
	return b
}

// table returns the table of the bed with these links.
func (b *bed) table(next, prev int) chain.Table {
	return chain.Table{M: b.m, Space: b.space, Width: b.width, Next: next, Prev: prev}
}

// check fails unless the words and the steps are what they should be.
func (b *bed) check(t *testing.T, call string, args ...any) {
	t.Helper()
	if r, w := b.m.Of(meter.Reads), b.m.Of(meter.Writes); r != (api.Wide{Lo: uint64(b.reads)}) || w != (api.Wide{Lo: uint64(b.writes)}) {
		t.Fatalf("%s%v: %v reads and %v writes, not %d and %d", call, args, r, w, b.reads, b.writes)
	}
	got, _ := b.m.Look(b.space)
	for at := range max(len(got), len(b.words)) {
		if at >= len(got) || at >= len(b.words) || got[at] != b.words[at] {
			t.Fatalf("%s%v: word %d of entry %d: of\n%x, not\n%x", call, args, at%b.width, at/b.width+1, got, b.words)
		}
	}
	first, _ := b.m.Look(0)
	last, _ := b.m.Look(2)
	if !slices.Equal(append(first, last...), b.other) || b.m.Spaces() != 3 {
		t.Fatalf("%s%v: another space is changed", call, args)
	}
}

// lay sets the links of a list as they should be, and no other words.
func (b *bed) lay(x chain.Table, list []int) {
	for i, id := range list {
		first := (id - 1) * b.width
		b.words[first+x.Next], b.words[first+x.Prev] = 0, 0
		if i > 0 {
			b.words[first+x.Prev] = uint64(list[i-1])
		}
		if i+1 < len(list) {
			b.words[first+x.Next] = uint64(list[i+1])
		}
	}
}

// of is the chain of a list.
func of(list []int) chain.Chain {
	if len(list) == 0 {
		return chain.Chain{}
	}
	return chain.Chain{Head: list[0], Tail: list[len(list)-1], Len: len(list)}
}

// pair is chains of one table, and lists on which the same calls are made.
type pair struct {
	*bed
	chain.Table
	got  []chain.Chain
	want [][]int
}

func (b *bed) pair(next, prev, chains int) *pair {
	return &pair{bed: b, Table: b.table(next, prev), got: make([]chain.Chain, chains), want: make([][]int, chains)}
}

// where returns the list in which an entry is, or -1.
func (p *pair) where(id int) int {
	return slices.IndexFunc(p.want, func(l []int) bool { return slices.Contains(l, id) })
}

// same fails unless a call left what it should.
func (p *pair) same(t *testing.T, call string, i int, e api.Errno, args ...any) {
	t.Helper()
	if p.got[i] != of(p.want[i]) || e != api.OK {
		t.Fatalf("%s%v: %v, error %d, not %v", call, args, p.got[i], e, of(p.want[i]))
	}
	p.lay(p.Table, p.want[i])
	p.check(t, call, args...)
}

func (p *pair) push(t *testing.T, i int, ids ...int) {
	t.Helper()
	for _, id := range ids {
		p.writes += 2
		if len(p.want[i]) > 0 {
			p.writes++
		}
		var e api.Errno
		p.got[i], e = p.Push(p.got[i], id)
		p.want[i] = append(p.want[i], id)
		p.same(t, "Push", i, e, id)
	}
}

func (p *pair) drop(t *testing.T, i int, ids ...int) {
	t.Helper()
	for _, id := range ids {
		at := slices.Index(p.want[i], id)
		p.reads += 2
		if at > 0 {
			p.writes++
		}
		if at < len(p.want[i])-1 {
			p.writes++
		}
		var e api.Errno
		p.got[i], e = p.Drop(p.got[i], id)
		p.want[i] = slices.Delete(p.want[i], at, at+1)
		p.same(t, "Drop", i, e, id)
	}
}

// join appends chain j to chain i and empties it.
func (p *pair) join(t *testing.T, i, j int) {
	t.Helper()
	if len(p.want[i]) > 0 && len(p.want[j]) > 0 {
		p.writes += 2
	}
	var e api.Errno
	p.got[i], e = p.Join(p.got[i], p.got[j])
	p.want[i] = append(p.want[i], p.want[j]...)
	p.got[j], p.want[j] = chain.Chain{}, nil
	p.same(t, "Join", i, e, i, j)
}

// after asks for the entry behind each one of a chain.
func (p *pair) after(t *testing.T, i int) {
	t.Helper()
	for at, id := range p.want[i] {
		want := 0
		if at+1 < len(p.want[i]) {
			want = p.want[i][at+1]
		}
		p.reads++
		if got, e := p.After(id); got != want || e != api.OK {
			t.Fatalf("After(%d): %d, error %d, not %d", id, got, e, want)
		}
		p.check(t, "After", id)
	}
}

// all goes through a chain till so many entries were yielded, and through all
// of it if it has no more. Each entry after which it goes on is one read.
func (p *pair) all(t *testing.T, i, most int) {
	t.Helper()
	want := p.want[i][:min(most, len(p.want[i]))]
	var got []int
	for id := range p.All(p.got[i]) {
		if len(got) > 0 {
			p.reads++
		}
		p.check(t, "All", got, id)
		got = append(got, id)
		if len(got) == most {
			break
		}
	}
	if !slices.Equal(got, want) {
		t.Fatalf("All: %v, not %v", got, want)
	}
	p.check(t, "All", got)
}

// run makes calls that follow no short rule on two chains after another.
func (p *pair) run(t *testing.T, seed *noise) {
	t.Helper()
	id, i, j := seed.below(p.size)+1, seed.below(len(p.want)), seed.below(len(p.want))
	at := p.where(id)
	switch seed.below(20) {
	case 0:
		if i != j {
			p.join(t, i, j)
		}
	case 1:
		p.after(t, i)
	case 2:
		p.all(t, i, math.MaxInt)
	case 3:
		p.all(t, i, 1+seed.below(len(p.want[i])+1))
	case 4:
		p.fail(t, seed, i, j, id)
	case 5:
		if l := p.want[i]; len(l) > 0 {
			p.drop(t, i, l[0])
		}
	case 6:
		if l := p.want[i]; len(l) > 0 {
			p.drop(t, i, l[len(l)-1])
		}
	default:
		if at < 0 {
			p.push(t, i, id)
		} else {
			p.drop(t, at, id)
		}
	}
}

// fail makes calls that fail, and fails itself if they do anything.
func (p *pair) fail(t *testing.T, seed *noise, i, j, id int) {
	t.Helper()
	bad := append(far(), -1, 0, p.size+1, p.size+2)[seed.below(len(far())+4)]
	p.fails(t, p.Table, p.got[i], bad, api.ErrRange)
	wrong := p.Table
	wrong.Next = wrong.Prev
	p.fails(t, wrong, p.got[i], id, api.ErrArg)
	if c, e := wrong.Join(p.got[i], p.got[j]); c != p.got[i] || e != api.ErrArg {
		t.Fatalf("Join: %v, error %d", c, e)
	}
	p.check(t, "Join")
}

// fails fails unless the calls for an entry do.
func (b *bed) fails(t *testing.T, x chain.Table, c chain.Chain, id int, want api.Errno) {
	t.Helper()
	if got, e := x.Push(c, id); got != c || e != want {
		t.Fatalf("%v: Push(%v, %d): %v, error %d, not %d", x, c, id, got, e, want)
	}
	if got, e := x.Drop(c, id); got != c || e != want {
		t.Fatalf("%v: Drop(%v, %d): %v, error %d, not %d", x, c, id, got, e, want)
	}
	if got, e := x.After(id); got != 0 || e != want {
		t.Fatalf("%v: After(%d): %d, error %d, not %d", x, id, got, e, want)
	}
	b.check(t, "failed calls", x, c, id)
}
