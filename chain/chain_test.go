package chain_test

import (
	"iter"
	"math"
	"reflect"
	"slices"
	"testing"

	"haymow/api"
	"haymow/chain"
	"haymow/mem"
	"haymow/meter"
)

// The calls have these signatures exactly.
var (
	_ func(chain.Table) bool                                               = chain.Table.Right
	_ func(chain.Table) int                                                = chain.Table.Entries
	_ func(chain.Table, chain.Chain, int) (chain.Chain, api.Errno)         = chain.Table.Push
	_ func(chain.Table, chain.Chain, int) (chain.Chain, api.Errno)         = chain.Table.Drop
	_ func(chain.Table, int) (int, api.Errno)                              = chain.Table.After
	_ func(chain.Table, chain.Chain, chain.Chain) (chain.Chain, api.Errno) = chain.Table.Join
	_ func(chain.Table, chain.Chain) iter.Seq[int]                         = chain.Table.All
	_                                                                      = chain.Table{M: (*mem.Mem)(nil), Space: int(0), Width: int(0), Next: int(0), Prev: int(0)}
	_                                                                      = chain.Chain{Head: int(0), Tail: int(0), Len: int(0)}
	_                                                                      = map[chain.Table]chain.Chain{} // both can be compared
	_                                                                      = chain.Chain{} == chain.Chain{}
)

// The example of the chapter.
func TestExample(t *testing.T) {
	m := mem.New()
	id, _ := m.Open(10)
	x := chain.Table{M: m, Space: id, Width: 2, Next: 0, Prev: 1}
	var c chain.Chain
	for _, id := range []int{2, 5, 1} {
		var e api.Errno
		if c, e = x.Push(c, id); e != api.OK {
			t.Errorf("Push(%d): error %d", id, e)
		}
	}
	if c != (chain.Chain{Head: 2, Tail: 1, Len: 3}) {
		t.Errorf("Push: %v", c)
	}
	c, e := x.Drop(c, 5)
	if c != (chain.Chain{Head: 2, Tail: 1, Len: 2}) || e != api.OK {
		t.Errorf("Drop: %v, error %d", c, e)
	}
	if got := slices.Collect(x.All(c)); !slices.Equal(got, []int{2, 1}) {
		t.Errorf("All: %v", got)
	}
	// Entry 1 follows 2, and entries 3 and 4 never were in it.
	if got, _ := m.Look(id); !slices.Equal(got, []uint64{0, 2, 1, 0, 0, 0, 0, 0, 1, 2}) {
		t.Errorf("words: %v", got)
	}
}

// P9.1

func TestRight(t *testing.T) {
	m := mem.New()
	numbers := append(far(), -1, 0, 1, 2, 3, 4, 5, 31, 32, 33, 62, 63, 64, 65, 66, 127, 128)
	right := 0
	for _, width := range numbers {
		for _, next := range numbers {
			for _, prev := range numbers {
				x := chain.Table{M: m, Width: width, Next: next, Prev: prev}
				want := false
				if width >= 2 && width <= 64 {
					words := make([]int, width)
					for i := range words {
						words[i] = i
					}
					want = next != prev && slices.Contains(words, next) && slices.Contains(words, prev)
				}
				if x.Right() != want {
					t.Fatalf("Width %d, Next %d, Prev %d: Right %v", width, next, prev, !want)
				}
				if want {
					right++
				}
				x.M = nil
				if x.Right() {
					t.Fatalf("Width %d, Next %d, Prev %d, no Mem: Right", width, next, prev)
				}
			}
		}
	}
	if right < 100 {
		t.Errorf("%d tables only were Right", right)
	}
	if m.Steps() != (api.Wide{}) {
		t.Errorf("Right: %v steps", m.Steps())
	}
}

// Each width, and each two words of an entry of some widths.
func TestRightOfEachWidth(t *testing.T) {
	m := mem.New()
	for width := -3; width < 70; width++ {
		for _, links := range [][2]int{{0, 1}, {1, 0}, {0, width - 1}, {width - 1, 0}, {0, width}, {width, 0}, {-1, 0}, {0, -1}, {1, 1}} {
			x := chain.Table{M: m, Width: width, Next: links[0], Prev: links[1]}
			want := width >= 2 && width <= 64 && links[0] >= 0 && links[1] >= 0 && max(links[0], links[1]) < width && links[0] != links[1]
			if x.Right() != want {
				t.Errorf("Width %d, links %v: Right %v", width, links, !want)
			}
		}
	}
	for _, width := range []int{2, 3, 63, 64} {
		for next := range width {
			for prev := range width {
				x := chain.Table{M: m, Width: width, Next: next, Prev: prev}
				if x.Right() != (next != prev) {
					t.Errorf("Width %d, Next %d, Prev %d: Right %v", width, next, prev, x.Right())
				}
			}
		}
	}
}

// Whether a table is Right is not a question of its space.
func TestRightWithoutSpace(t *testing.T) {
	for _, space := range append(far(), -1, 0, 1) {
		x := chain.Table{M: mem.New(), Space: space, Width: 2, Next: 1}
		if !x.Right() || x.Entries() != 0 {
			t.Errorf("space %d: Right %v, %d entries", space, x.Right(), x.Entries())
		}
	}
}

func TestEntries(t *testing.T) {
	m := mem.New()
	for size := range 200 {
		id, _ := m.Open(size)
		for width := 2; width <= 64; width++ {
			want := 0
			for last := width; last <= size; last += width {
				want++
			}
			if got := (chain.Table{M: m, Space: id, Width: width, Prev: width - 1}).Entries(); got != want {
				t.Errorf("%d words, Width %d: %d entries, not %d", size, width, got, want)
			}
		}
		for _, x := range []chain.Table{
			{M: nil, Space: id, Width: 2, Prev: 1},
			{M: m, Space: id, Width: 1, Prev: 1},
			{M: m, Space: id, Width: 0, Prev: 1},
			{M: m, Space: id, Width: -2, Prev: 1},
			{M: m, Space: id, Width: 65, Prev: 1},
			{M: m, Space: id, Width: 3, Next: 1, Prev: 1},
			{M: m, Space: id, Width: 3, Next: 3, Prev: 1},
			{M: m, Space: id, Width: 3, Next: 2, Prev: -1},
			{},
		} {
			if x.Entries() != 0 {
				t.Errorf("%v, %d words: %d entries", x, size, x.Entries())
			}
		}
	}
	for _, space := range append(far(), -1, 200, 201) {
		if n := (chain.Table{M: m, Space: space, Width: 2, Prev: 1}).Entries(); n != 0 {
			t.Errorf("space %d: %d entries", space, n)
		}
	}
	if m.Steps() != (api.Wide{}) {
		t.Errorf("Entries: %v steps", m.Steps())
	}
}

// A space that grows has more entries, and one that is closed has none.
func TestEntriesChange(t *testing.T) {
	m := mem.New()
	id, _ := m.Open(0)
	x := chain.Table{M: m, Space: id, Width: 3, Next: 2, Prev: 1}
	for words := range 20 {
		m.Grow(id, words)
		if got, want := x.Entries(), []int{0, 0, 0, 1, 1, 1, 2, 2, 2, 3, 3, 3, 4, 4, 4, 5, 5, 5, 6, 6}[words]; got != want {
			t.Errorf("%d words: %d entries, not %d", words, got, want)
		}
	}
	m.Close(id)
	if x.Entries() != 0 {
		t.Errorf("closed space: %d entries", x.Entries())
	}
}

// chains are some that were made on a table and some that were not.
func chains() []chain.Chain {
	return []chain.Chain{
		{}, {Head: 2, Tail: 3, Len: 2}, {Head: 1, Tail: 1, Len: 1}, {Head: 4}, {Tail: 4}, {Len: 4}, {Len: -1},
		{Head: -5, Tail: 900, Len: 7}, {Head: 3, Tail: 2, Len: math.MaxInt}, {Head: math.MinInt, Tail: math.MaxInt, Len: math.MinInt},
		{Head: 1 << 62, Tail: 1<<62 + 1, Len: 2}, {Head: 5, Tail: 5, Len: math.MaxInt - 1},
	}
}

// What is no entry of the table, be it that it would be an incomplete one.
func TestNoEntry(t *testing.T) {
	for _, width := range []int{2, 3, 5, 64} {
		for _, size := range []int{0, 1, 2, 6} {
			for _, spare := range []int{0, 1, width - 1} {
				b := newBed(1, width, size, spare)
				x := b.table(width-1, 0)
				for _, c := range chains() {
					for _, id := range append(far(), -2, -1, 0, size+1, size+2) {
						b.fails(t, x, c, id, api.ErrRange)
					}
				}
				for id := 1; id <= size; id++ {
					if c, e := x.Push(chain.Chain{}, id); c != (chain.Chain{Head: id, Tail: id, Len: 1}) || e != api.OK {
						t.Errorf("Push(%d): %v, error %d", id, c, e)
					}
				}
			}
		}
	}
}

// In a space that is not open there is no entry at all.
func TestNoSpace(t *testing.T) {
	b := newBed(2, 4, 5, 0)
	for _, space := range append(far(), -1, 3, 4) {
		x := chain.Table{M: b.m, Space: space, Width: 4, Next: 3, Prev: 2}
		for _, c := range chains() {
			for _, id := range []int{-1, 0, 1, 2, 5, 6} {
				b.fails(t, x, c, id, api.ErrRange)
			}
			for id := range x.All(c) {
				t.Errorf("space %d: All yields %d", space, id)
			}
			if got, e := x.Join(c, chain.Chain{}); got != c && c.Len > 0 || e != api.OK {
				t.Errorf("space %d: Join: %v, error %d", space, got, e)
			}
			x.Join(c, c)
		}
	}
	b.check(t, "no space")
	x := b.table(1, 0)
	c, _ := x.Push(chain.Chain{}, 2)
	b.m.Close(b.space)
	if got, e := x.Push(c, 3); got != c || e != api.ErrRange {
		t.Errorf("closed space, Push: %v, error %d", got, e)
	}
	if got, e := x.Drop(c, 2); got != c || e != api.ErrRange {
		t.Errorf("closed space, Drop: %v, error %d", got, e)
	}
	if got, e := x.After(2); got != 0 || e != api.ErrRange {
		t.Errorf("closed space, After: %v, error %d", got, e)
	}
	for id := range x.All(c) {
		t.Errorf("closed space: All yields %d", id)
	}
}

// wrong are tables that are not Right, in an open space of a bed.
func wrong(b *bed) []chain.Table {
	var out []chain.Table
	for _, n := range append(far(), -1, 1, 65) {
		x := b.table(0, 1)
		x.Width = n
		y, z := b.table(n, 0), b.table(0, n)
		out = append(out, x)
		if n != 1 {
			out = append(out, y, z)
		}
	}
	x := b.table(0, 1)
	x.M = nil
	y := b.table(0, 1)
	y.Width = 0
	return append(out, x, y, b.table(0, 0), b.table(1, 1), b.table(b.width, 0), b.table(1, b.width), chain.Table{}, chain.Table{Width: 2, Next: 1})
}

// ErrArg is ahead of ErrRange.
func TestNotRight(t *testing.T) {
	b := newBed(3, 4, 6, 2)
	for _, x := range wrong(b) {
		if x.Right() {
			t.Errorf("%v: Right", x)
		}
		for _, c := range chains() {
			for _, id := range append(far(), -1, 0, 1, 2, 6, 7) {
				b.fails(t, x, c, id, api.ErrArg)
			}
			for _, d := range chains() {
				if got, e := x.Join(c, d); got != c || e != api.ErrArg {
					t.Errorf("%v: Join(%v, %v): %v, error %d", x, c, d, got, e)
				}
			}
			for id := range x.All(c) {
				t.Errorf("%v: All(%v) yields %d", x, c, id)
			}
		}
	}
	b.check(t, "not Right")
}

// P9.2 and P9.3

func TestPush(t *testing.T) {
	p := newBed(4, 3, 6, 1).pair(0, 2, 1)
	for _, id := range []int{3, 6, 1, 2, 5, 4} {
		p.push(t, 0, id)
		p.after(t, 0)
		p.all(t, 0, math.MaxInt)
	}
	if p.got[0] != (chain.Chain{Head: 3, Tail: 4, Len: 6}) {
		t.Errorf("Push: %v", p.got[0])
	}
}

// Entries are dropped in each order, and the last one leaves the zero Chain.
func TestDrop(t *testing.T) {
	for _, order := range orders(5) {
		p := newBed(5, 2, 5, 0).pair(1, 0, 1)
		p.push(t, 0, 4, 2, 5, 1, 3)
		for _, i := range order {
			p.drop(t, 0, i+1)
			p.after(t, 0)
			p.all(t, 0, math.MaxInt)
		}
		if p.got[0] != (chain.Chain{}) {
			t.Errorf("Drop of all, last %d: %v", order[4]+1, p.got[0])
		}
		p.push(t, 0, 3, 1)
	}
}

// orders returns each order of the numbers below n.
func orders(n int) [][]int {
	if n == 0 {
		return [][]int{nil}
	}
	var out [][]int
	for _, o := range orders(n - 1) {
		for i := range n {
			out = append(out, slices.Insert(slices.Clone(o), i, n-1))
		}
	}
	return out
}

// An entry that was dropped may be in a chain again, the same or another one.
func TestDropAndPush(t *testing.T) {
	p := newBed(6, 4, 5, 3).pair(2, 1, 2)
	p.push(t, 0, 1, 2, 3, 4, 5)
	for _, id := range []int{3, 1, 5, 3, 2, 2, 4} {
		p.drop(t, 0, id)
		p.push(t, 0, id)
		p.all(t, 0, math.MaxInt)
	}
	for _, id := range []int{1, 4, 2, 5, 3} {
		p.drop(t, 0, id)
		p.push(t, 1, id)
		p.all(t, 0, math.MaxInt)
		p.all(t, 1, math.MaxInt)
	}
}

func TestJoin(t *testing.T) {
	for first := range 4 {
		for second := range 4 {
			p := newBed(7, 5, 8, 0).pair(3, 4, 2)
			p.push(t, 0, []int{6, 2, 4}[:first]...)
			p.push(t, 1, []int{1, 8, 3}[:second]...)
			p.join(t, 0, 1)
			p.after(t, 0)
			p.all(t, 0, math.MaxInt)
			p.push(t, 0, 7)
			p.drop(t, 0, p.want[0][0])
			p.all(t, 0, math.MaxInt)
		}
	}
}

// All of a chain takes a read less than it has entries, as does each part of it
// that ends with a break, and may be gone through time and again.
func TestAll(t *testing.T) {
	for n := range 6 {
		p := newBed(8, 2, 5, 1).pair(0, 1, 1)
		p.push(t, 0, []int{3, 1, 5, 2, 4}[:n]...)
		for most := 1; most <= n+1; most++ {
			before := p.m.Of(meter.Reads).Lo
			p.all(t, 0, most)
			if got, want := int(p.m.Of(meter.Reads).Lo-before), max(0, min(most, n)-1); got != want {
				t.Errorf("%d of %d entries: %d reads, not %d", most, n, got, want)
			}
		}
		seq := p.All(p.got[0])
		p.check(t, "All that is not ranged over")
		for range 3 {
			got := slices.Collect(seq)
			if p.reads += max(0, n-1); !slices.Equal(got, p.want[0]) {
				t.Errorf("All: %v, not %v", got, p.want[0])
			}
			p.check(t, "All")
		}
	}
}

// Traversals do not disturb each other.
func TestAllWithinAll(t *testing.T) {
	p := newBed(9, 3, 4, 0).pair(1, 2, 1)
	p.push(t, 0, 2, 4, 1)
	var got []int
	for a := range p.All(p.got[0]) {
		for b := range p.All(p.got[0]) {
			got = append(got, a*10+b)
		}
	}
	if !slices.Equal(got, []int{22, 24, 21, 42, 44, 41, 12, 14, 11}) {
		t.Errorf("All: %v", got)
	}
	p.reads += 2 + 3*2
	p.check(t, "All")
}

// through goes through a chain.
func through(x chain.Table, c chain.Chain) api.Errno {
	for range x.All(c) {
	}
	return api.OK
}

// The numbers of steps, written out.
func TestSteps(t *testing.T) {
	b := newBed(10, 4, 9, 0)
	x := b.table(3, 1)
	var c, d, none chain.Chain
	for _, step := range []struct {
		name          string
		reads, writes int
		call          func() api.Errno
	}{
		{"Push into none", 0, 2, func() (e api.Errno) { c, e = x.Push(c, 1); return }},
		{"Push behind one", 0, 3, func() (e api.Errno) { c, e = x.Push(c, 2); return }},
		{"Push behind two", 0, 3, func() (e api.Errno) { c, e = x.Push(c, 3); return }},
		{"Push behind three", 0, 3, func() (e api.Errno) { c, e = x.Push(c, 4); return }},
		{"Push into another one", 0, 2, func() (e api.Errno) { d, e = x.Push(d, 9); return }},
		{"After", 1, 0, func() (e api.Errno) { _, e = x.After(2); return }},
		{"After the last one", 1, 0, func() (e api.Errno) { _, e = x.After(4); return }},
		{"After one in no chain", 1, 0, func() (e api.Errno) { _, e = x.After(7); return }},
		{"Drop from within", 2, 2, func() (e api.Errno) { c, e = x.Drop(c, 2); return }},
		{"Drop of the first one", 2, 1, func() (e api.Errno) { c, e = x.Drop(c, 1); return }},
		{"Drop of the last one", 2, 1, func() (e api.Errno) { c, e = x.Drop(c, 4); return }},
		{"Join of two", 0, 2, func() (e api.Errno) { d, e = x.Join(d, c); return }},
		{"Join with none", 0, 0, func() (e api.Errno) { d, e = x.Join(d, none); return }},
		{"Join of none with one", 0, 0, func() (e api.Errno) { c, e = x.Join(none, d); return }},
		{"Join of none", 0, 0, func() (e api.Errno) { none, e = x.Join(none, none); return }},
		{"All of none", 0, 0, func() api.Errno { return through(x, none) }},
		{"All of two", 1, 0, func() api.Errno { return through(x, c) }},
		{"Drop of the first of two", 2, 1, func() (e api.Errno) { c, e = x.Drop(c, 9); return }},
		{"All of one", 0, 0, func() api.Errno { return through(x, c) }},
		{"Drop of the only one", 2, 0, func() (e api.Errno) { c, e = x.Drop(c, 3); return }},
		{"Right", 0, 0, func() api.Errno { x.Right(); return api.OK }},
		{"Entries", 0, 0, func() api.Errno { x.Entries(); return api.OK }},
	} {
		reads, writes := b.m.Of(meter.Reads).Lo, b.m.Of(meter.Writes).Lo
		if e := step.call(); e != api.OK {
			t.Errorf("%s: error %d", step.name, e)
		}
		reads, writes = b.m.Of(meter.Reads).Lo-reads, b.m.Of(meter.Writes).Lo-writes
		if int(reads) != step.reads || int(writes) != step.writes {
			t.Errorf("%s: %d reads and %d writes, not %d and %d", step.name, reads, writes, step.reads, step.writes)
		}
	}
	if c != (chain.Chain{}) || none != c {
		t.Errorf("at the end: %v, %v", c, none)
	}
}

// Calls that follow no short rule, on several chains of one table, and on
// tables of the same entries with other links. With P9.4: each word is looked at
// behind each call.
func TestManyCalls(t *testing.T) {
	for _, shape := range [][3]int{{2, 1, 0}, {2, 6, 1}, {3, 12, 2}, {5, 9, 0}, {17, 5, 16}, {64, 4, 63}} {
		for seed := range noise(6) {
			b := newBed(seed+100, shape[0], shape[1], shape[2])
			pairs := []*pair{b.pair(shape[0]-1, 0, 3)}
			if shape[0] >= 5 { // there are words for the links of a second table
				pairs = append(pairs, b.pair(1, 3, 2))
			}
			if shape[0] >= 7 {
				pairs = append(pairs, b.pair(shape[0]-2, 2, 1))
			}
			seen := map[int]bool{}
			for range 1500 {
				p := pairs[seed.below(len(pairs))]
				p.run(t, &seed)
				seen[len(p.want[0])] = true
			}
			for n := range min(shape[1], 5) {
				if !seen[n] {
					t.Errorf("shape %v: never %d entries", shape, n)
				}
			}
		}
	}
}

// Each word of an entry may be a link, and the others keep what they are.
func TestEachTwoWords(t *testing.T) {
	for width := 2; width <= 7; width++ {
		for next := range width {
			for prev := range width {
				if next != prev {
					p := newBed(11, width, 5, 1).pair(next, prev, 2)
					p.push(t, 0, 5, 1, 4)
					p.push(t, 1, 2, 3)
					p.join(t, 1, 0)
					p.drop(t, 1, 5, 2)
					p.after(t, 1)
					p.all(t, 1, math.MaxInt)
				}
			}
		}
	}
}

// Two Mems, and two spaces of one Mem, have chains of their own.
func TestTablesAreApart(t *testing.T) {
	a, b := newBed(12, 3, 4, 0).pair(0, 1, 1), newBed(12, 3, 4, 0).pair(0, 1, 1)
	a.push(t, 0, 1, 2, 3)
	b.check(t, "calls on another Mem")
	b.push(t, 0, 4, 3)
	a.check(t, "calls on another Mem")
	a.all(t, 0, math.MaxInt)
	c := a.Table
	c.Space = 2
	var d chain.Chain
	for id := 1; id <= 3; id++ {
		d, _ = c.Push(d, id*10)
	}
	if got := slices.Collect(c.All(d)); !slices.Equal(got, []int{10, 20, 30}) {
		t.Errorf("All: %v", got)
	}
	got, _ := a.m.Look(a.space)
	if !slices.Equal(got, a.words) {
		t.Errorf("calls on another space changed %v to %v", a.words, got)
	}
}

// A chain stays what it is when its space grows, and takes the new entries.
func TestChainsInASpaceThatGrows(t *testing.T) {
	m := mem.New()
	id, _ := m.Open(1)
	x := chain.Table{M: m, Space: id, Width: 3, Next: 2, Prev: 0}
	var c chain.Chain
	var want []int
	for n := 1; n <= 200; n++ {
		if _, e := x.Push(c, n); e != api.ErrRange {
			t.Fatalf("Push(%d): error %d", n, e)
		}
		m.Grow(id, 3*n+n%3)
		var e api.Errno
		if c, e = x.Push(c, n); e != api.OK {
			t.Fatalf("Push(%d): error %d", n, e)
		}
		want = append(want, n)
		if got := slices.Collect(x.All(c)); !slices.Equal(got, want) {
			t.Fatalf("All: %v, not %v", got, want)
		}
	}
}

// A space of the most words, of entries of the least width and of the greatest.
func TestTheMostEntries(t *testing.T) {
	for _, width := range []int{2, 64} {
		m := mem.New()
		id, _ := m.Open(api.MaxWords)
		x := chain.Table{M: m, Space: id, Width: width, Next: width - 1, Prev: 0}
		n := 4194304 / width
		if x.Entries() != n {
			t.Fatalf("Width %d: %d entries", width, x.Entries())
		}
		var c chain.Chain
		for i := range n {
			c, _ = x.Push(c, n-i)
		}
		if c != (chain.Chain{Head: n, Tail: 1, Len: n}) {
			t.Fatalf("Push: %v", c)
		}
		if got, e := x.Push(c, n+1); got != c || e != api.ErrRange {
			t.Errorf("Push(%d): %v, error %d", n+1, got, e)
		}
		want := n
		for id := range x.All(c) {
			if id != want {
				t.Fatalf("All: %d, not %d", id, want)
			}
			want--
		}
		if want != 0 {
			t.Errorf("All ended ahead of %d", want)
		}
		if got := m.Of(meter.Reads); got != (api.Wide{Lo: uint64(n - 1)}) {
			t.Errorf("All: %v reads, not %d", got, n-1)
		}
		for id := 1; id <= n; id++ {
			if id%3 != 2 {
				c, _ = x.Drop(c, id)
			}
		}
		kept := 0
		for id := range x.All(c) {
			kept++
			if want := 3*((n+1)/3-kept) + 2; id != want {
				t.Fatalf("All: %d, not %d", id, want)
			}
		}
		if kept != (n+1)/3 || c.Len != kept || c.Tail != 2 {
			t.Errorf("Drop: %v, %d entries", c, kept)
		}
	}
}

// P1

// ends fails unless a traversal ends.
func ends(t *testing.T, x chain.Table, c chain.Chain) {
	t.Helper()
	n := 0
	for range x.All(c) {
		if n++; n > 1<<20 {
			t.Fatalf("%v: All(%v) does not end", x, c)
		}
	}
}

// Whatever the links are, and whatever chain is given, each call ends, and no
// words but links are written.
func TestCallsEndForAllArguments(t *testing.T) {
	links := []uint64{0, 1, 2, 3, 4, 5, 1 << 31, 1 << 32, 1<<32 + 1, 1 << 61, 1<<61 + 1, 1 << 62, 1<<62 + 1, 1 << 63, 1<<63 + 1, math.MaxUint64 - 1, math.MaxUint64}
	seed := noise(13)
	for _, width := range []int{2, 3, 4, 5, 64} {
		for range 300 {
			b := newBed(seed, width, 4, 1)
			x := b.table(seed.below(width-1), width-1)
			for id := range 4 {
				b.m.Write(b.space, id*width+x.Next, links[seed.below(len(links))])
				b.m.Write(b.space, id*width+x.Prev, links[seed.below(len(links))])
			}
			for range 20 {
				numbers := append(far(), -1, 0, 1, 2, 3, 4, 5)
				some := func() int { return numbers[seed.below(len(numbers))] }
				c, d := chain.Chain{Head: some(), Tail: some(), Len: some()}, chain.Chain{Head: some(), Tail: some(), Len: some()}
				if seed.below(3) == 0 {
					c, d = chains()[seed.below(len(chains()))], chains()[seed.below(len(chains()))]
				}
				ends(t, x, c)
				x.Push(c, some())
				x.Drop(c, some())
				x.After(some())
				x.Join(c, d)
				x.Join(c, c)
				ends(t, x, c)
			}
			got, _ := b.m.Look(b.space)
			for at, w := range got {
				if at%width != x.Next && at%width != x.Prev || at >= 4*width {
					if w != b.words[at] {
						t.Fatalf("Width %d, links %d and %d: word %d is changed", width, x.Next, x.Prev, at)
					}
				}
			}
		}
	}
}

// Entries that lead to each other in a circle, and a length that says too much.
func TestCirclesEnd(t *testing.T) {
	b := newBed(14, 2, 3, 0)
	x := b.table(0, 1)
	for id, next := range []uint64{2, 3, 1} {
		b.m.Write(b.space, 2*id, next)
		b.m.Write(b.space, 2*id+1, next)
	}
	for _, n := range append(far(), -1, 0, 1, 2, 3, 4, 1000000) {
		for head := range 5 {
			ends(t, x, chain.Chain{Head: head, Tail: 3, Len: n})
		}
	}
	for id := range 3 {
		b.m.Write(b.space, 2*id, uint64(id+1)) // each is behind itself
	}
	for _, n := range append(far(), 3) {
		ends(t, x, chain.Chain{Head: 2, Tail: 2, Len: n})
	}
}

// The body of a traversal may change the space: it ends all the same.
func TestSpacesThatChangeUnderATraversal(t *testing.T) {
	p := newBed(15, 2, 5, 0).pair(0, 1, 1)
	p.push(t, 0, 1, 2, 3, 4, 5)
	n := 0
	for range p.All(p.got[0]) {
		n++
		p.m.Close(p.space)
	}
	if n < 1 || n > 5 {
		t.Errorf("All: %d entries", n)
	}
	p = newBed(15, 2, 5, 0).pair(0, 1, 1)
	p.push(t, 0, 1, 2, 3, 4, 5)
	c := p.got[0]
	n = 0
	for id := range p.All(c) {
		n++
		size, _ := p.m.Size(p.space)
		if n < 10000 {
			p.m.Grow(p.space, size+2)
			c, _ = p.Push(c, id+5)
		}
	}
	if n >= 10000 {
		t.Errorf("All: %d entries", n)
	}
}

// P2 (rules 3 and 4)

// Chains are values: a call leaves the ones that it is given as they are, and
// the same calls have the same results.
func TestChainsAreValues(t *testing.T) {
	run := func() []any {
		b := newBed(16, 3, 6, 0)
		x := b.table(2, 1)
		table := x
		c, _ := x.Push(chain.Chain{}, 4)
		was := c
		d, _ := x.Push(c, 2)
		e, _ := x.Push(chain.Chain{}, 1)
		f, _ := x.Join(d, e)
		g, _ := x.Drop(f, 2)
		if c != was || d != (chain.Chain{Head: 4, Tail: 2, Len: 2}) || e != (chain.Chain{Head: 1, Tail: 1, Len: 1}) || f != (chain.Chain{Head: 4, Tail: 1, Len: 3}) || g != (chain.Chain{Head: 4, Tail: 1, Len: 2}) || x != table {
			t.Errorf("%v, %v, %v, %v, %v, %v", c, d, e, f, g, x)
		}
		words, _ := b.m.Look(b.space)
		return []any{c, d, e, f, g, words, b.m.Steps(), slices.Collect(x.All(g))}
	}
	if first, second := run(), run(); !reflect.DeepEqual(first, second) {
		t.Errorf("the same calls: %v, and then %v", first, second)
	}
}

// The types show the chapter's methods and fields, and nothing else.
func TestNothingElseIsExported(t *testing.T) {
	of := reflect.TypeFor[*chain.Table]()
	var got []string
	for i := range of.NumMethod() {
		got = append(got, of.Method(i).Name)
	}
	if want := []string{"After", "All", "Drop", "Entries", "Join", "Push", "Right"}; !slices.Equal(got, want) {
		t.Errorf("methods of a Table: %v", got)
	}
	if n := reflect.TypeFor[*chain.Chain]().NumMethod(); n != 0 {
		t.Errorf("a Chain has %d methods", n)
	}
	for _, c := range []struct {
		of   reflect.Type
		want []string
	}{
		{reflect.TypeFor[chain.Table](), []string{"M", "Space", "Width", "Next", "Prev"}},
		{reflect.TypeFor[chain.Chain](), []string{"Head", "Tail", "Len"}},
	} {
		var fields []string
		for i := range c.of.NumField() {
			fields = append(fields, c.of.Field(i).Name)
		}
		if !slices.Equal(fields, c.want) {
			t.Errorf("fields of %v: %v", c.of, fields)
		}
	}
}
