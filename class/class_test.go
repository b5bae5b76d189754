package class_test

import (
	"math"
	"slices"
	"testing"

	"haymow/api"
	"haymow/class"
)

// bounds are the least and the greatest size of each class, written out.
func bounds() [][2]int {
	return [][2]int{
		{1, 1}, {2, 2}, {3, 4}, {5, 8}, {9, 16}, {17, 32}, {33, 64}, {65, 128}, {129, 256},
		{257, 512}, {513, 1024}, {1025, 2048}, {2049, 4096}, {4097, 8192},
	}
}

// names are those of the classes, written out.
func names() []string {
	return []string{
		"1", "2", "3-4", "5-8", "9-16", "17-32", "33-64", "65-128", "129-256",
		"257-512", "513-1024", "1025-2048", "2049-4096", "4097-8192",
	}
}

// noClasses are numbers of no class, those next to the ends among them, and
// those that wrap round to one if they are cut or shifted.
func noClasses() []int {
	return []int{
		-1, -2, -13, -14, -64, -1 << 8, -1 << 32, -1<<32 + 3, math.MinInt, math.MinInt + 1, math.MinInt + 5,
		14, 15, 16, 31, 32, 62, 63, 64, 65, 1 << 8, 1<<8 + 3, 1 << 32, 1<<32 + 3, math.MaxInt, math.MaxInt - 1,
	}
}

// classOf is the class of so many words, found by going up the powers of 2.
func classOf(words int) int {
	c := 0
	for power := 1; power < words && c < 13; power *= 2 {
		c++
	}
	return c
}

// greatSizes are those above the last class, and those far below the first.
func greatSizes() []int {
	out := []int{math.MaxInt, math.MaxInt - 1, math.MinInt, math.MinInt + 1, math.MinInt + 2}
	for bit := 13; bit < 63; bit++ {
		p := 1 << bit
		out = append(out, p-1, p, p+1, -p-1, -p, -p+1)
	}
	return out
}

// P4.1

func TestOf(t *testing.T) {
	for words, want := range map[int]int{
		-1: 0, 0: 0, 1: 0, 2: 1, 3: 2, 4: 2, 5: 3, 6: 3, 7: 3, 8: 3, 9: 4, 16: 4, 17: 5, 32: 5, 33: 6, 64: 6, 65: 7, 128: 7,
		129: 8, 256: 8, 257: 9, 512: 9, 513: 10, 1024: 10, 1025: 11, 2048: 11, 2049: 12, 4095: 12, 4096: 12,
		4097: 13, 8191: 13, 8192: 13, 8193: 13, 16384: 13, 16385: 13, 1 << 20: 13, 1 << 22: 13, 1 << 40: 13, 1<<62 + 1: 13,
		math.MaxInt: 13, -2: 0, -4: 0, -5: 0, -8192: 0, -8193: 0, math.MinInt: 0, math.MinInt + 1: 0, math.MinInt + 2: 0,
	} {
		if got := class.Of(words); got != want {
			t.Errorf("Of(%d): %d, not %d", words, got, want)
		}
	}
	for words := -20000; words <= 20000; words++ {
		if got, want := class.Of(words), classOf(words); got != want {
			t.Errorf("Of(%d): %d, not %d", words, got, want)
		}
	}
	for _, words := range greatSizes() {
		if got, want := class.Of(words), classOf(words); got != want {
			t.Errorf("Of(%d): %d, not %d", words, got, want)
		}
	}
}

func TestBounds(t *testing.T) {
	for c, want := range bounds() {
		low, high, ok := class.Bounds(c)
		if low != want[0] || high != want[1] || !ok {
			t.Errorf("Bounds(%d): %d, %d, %v", c, low, high, ok)
		}
	}
	if len(bounds()) != api.Classes {
		t.Errorf("%d classes", len(bounds()))
	}
}

func TestBoundsOfNoClass(t *testing.T) {
	for _, c := range noClasses() {
		if low, high, ok := class.Bounds(c); low != 0 || high != 0 || ok {
			t.Errorf("Bounds(%d): %d, %d, %v", c, low, high, ok)
		}
	}
	for c := -300; c < 300; c++ {
		low, high, ok := class.Bounds(c)
		if ok != (c >= 0 && c < api.Classes) || !ok && (low != 0 || high != 0) {
			t.Errorf("Bounds(%d): %d, %d, %v", c, low, high, ok)
		}
	}
}

func TestName(t *testing.T) {
	for c, want := range names() {
		if got := class.Name(c); got != want {
			t.Errorf("Name(%d): %q, not %q", c, got, want)
		}
	}
	if len(names()) != api.Classes {
		t.Errorf("%d classes", len(names()))
	}
}

func TestNameOfNoClass(t *testing.T) {
	for _, c := range noClasses() {
		if got := class.Name(c); got != "" {
			t.Errorf("Name(%d): %q", c, got)
		}
	}
	for c := -300; c < 300; c++ {
		if got := class.Name(c); (got != "") != (c >= 0 && c < api.Classes) {
			t.Errorf("Name(%d): %q", c, got)
		}
	}
}

// P4.2

func TestCount(t *testing.T) {
	for _, c := range []struct {
		sizes []int
		want  [api.Classes]int
	}{
		{nil, [api.Classes]int{}},
		{[]int{}, [api.Classes]int{}},
		{[]int{1}, [api.Classes]int{0: 1}},
		{[]int{0}, [api.Classes]int{0: 1}},
		{[]int{-1}, [api.Classes]int{0: 1}},
		{[]int{2}, [api.Classes]int{1: 1}},
		{[]int{5}, [api.Classes]int{3: 1}},
		{[]int{8192}, [api.Classes]int{13: 1}},
		{[]int{8193}, [api.Classes]int{13: 1}},
		{[]int{1, 2, 3, 4, 4}, [api.Classes]int{1, 1, 3}},
		{[]int{4, 3, 2, 4, 1}, [api.Classes]int{1, 1, 3}},
		{[]int{5, 5, 5, 5}, [api.Classes]int{3: 4}},
		{[]int{math.MinInt, math.MaxInt, -5, 0, 1, 1 << 40, 4097}, [api.Classes]int{0: 4, 13: 3}},
		{[]int{1, 2, 4, 8, 16, 32, 64, 128, 256, 512, 1024, 2048, 4096, 8192}, [api.Classes]int{1, 1, 1, 1, 1, 1, 1, 1, 1, 1, 1, 1, 1, 1}},
		{[]int{9, 17, 33, 65, 129, 257, 513, 1025, 2049, 4097, 64}, [api.Classes]int{0, 0, 0, 0, 1, 1, 2, 1, 1, 1, 1, 1, 1, 1}},
	} {
		if got := class.Count(c.sizes...); got != c.want {
			t.Errorf("Count(%v): %v, not %v", c.sizes, got, c.want)
		}
	}
	if got := class.Count(); got != [api.Classes]int{} {
		t.Errorf("Count(): %v", got)
	}
	if got := class.Count(7, 2, 6); got != [api.Classes]int{1: 1, 3: 2} {
		t.Errorf("Count(7, 2, 6): %v", got)
	}
}

func TestCountOfAllSizes(t *testing.T) {
	var sizes []int
	for words := 10000; words >= -50; words-- {
		sizes = append(sizes, words)
	}
	// Of the first class: 1, and the 51 sizes below it; of the last: all above 4096.
	want := [api.Classes]int{52, 1, 2, 4, 8, 16, 32, 64, 128, 256, 512, 1024, 2048, 5904}
	if got := class.Count(sizes...); got != want {
		t.Errorf("Count: %v, not %v", got, want)
	}
}

func TestRank(t *testing.T) {
	for _, c := range []struct {
		counts [api.Classes]int
		ahead  int
		class  int
		ok     bool
	}{
		{[api.Classes]int{}, 0, 0, false},
		{[api.Classes]int{}, 1, 0, false},
		{[api.Classes]int{}, math.MaxInt, 0, false},
		{[api.Classes]int{1}, 0, 0, true},
		{[api.Classes]int{1}, 1, 0, false},
		{[api.Classes]int{13: 1}, 0, 13, true},
		{[api.Classes]int{13: 1}, 1, 0, false},
		{[api.Classes]int{13: 3}, 2, 13, true},
		{[api.Classes]int{13: 3}, 3, 0, false},
		{[api.Classes]int{1, 1, 3}, 0, 0, true},
		{[api.Classes]int{1, 1, 3}, 1, 1, true},
		{[api.Classes]int{1, 1, 3}, 2, 2, true},
		{[api.Classes]int{1, 1, 3}, 4, 2, true},
		{[api.Classes]int{1, 1, 3}, 5, 0, false},
		{[api.Classes]int{0, 0, 2, 0, 0, 1}, 1, 2, true},
		{[api.Classes]int{0, 0, 2, 0, 0, 1}, 2, 5, true},
		{[api.Classes]int{0, 0, 2, 0, 0, 1}, 3, 0, false},
		// Nobody is ahead of the first by less than nothing.
		{[api.Classes]int{1, 1, 3}, -1, 0, false},
		{[api.Classes]int{1, 1, 3}, math.MinInt, 0, false},
		{[api.Classes]int{math.MaxInt}, -1, 0, false},
		{[api.Classes]int{-5, 1}, -1, 0, false},
		{[api.Classes]int{-5, 1}, -3, 0, false},
		// Negative counts count as 0, wherever they stand.
		{[api.Classes]int{-1}, 0, 0, false},
		{[api.Classes]int{-1, 1}, 0, 1, true},
		{[api.Classes]int{-1, 1}, 1, 0, false},
		{[api.Classes]int{2, -2, 2}, 1, 0, true},
		{[api.Classes]int{2, -2, 2}, 2, 2, true},
		{[api.Classes]int{2, -2, 2}, 3, 2, true},
		{[api.Classes]int{2, -2, 2}, 4, 0, false},
		{[api.Classes]int{1, -7, -7, 1, -7, 1}, 2, 5, true},
		{[api.Classes]int{math.MinInt, math.MinInt, 2}, 1, 2, true},
		{[api.Classes]int{math.MinInt, math.MinInt, 2}, 2, 0, false},
		{[api.Classes]int{math.MinInt, 1}, math.MaxInt, 0, false},
		{[api.Classes]int{-1, math.MaxInt}, math.MaxInt - 1, 1, true},
		{[api.Classes]int{-1, math.MaxInt}, math.MaxInt, 0, false},
		// Counts whose sum is no int.
		{[api.Classes]int{math.MaxInt, math.MaxInt}, math.MaxInt - 1, 0, true},
		{[api.Classes]int{math.MaxInt, math.MaxInt}, math.MaxInt, 1, true},
		{[api.Classes]int{0, 0, 1, math.MaxInt, math.MaxInt}, math.MaxInt, 3, true},
		{[api.Classes]int{math.MaxInt - 1, 1, 1}, math.MaxInt, 2, true},
		{[api.Classes]int{math.MaxInt - 1, 1, 1}, math.MaxInt - 1, 1, true},
		{[api.Classes]int{0, 5, -1, math.MaxInt - 6, 0, math.MinInt, 0, 0, 0, 0, 0, 0, 0, 2}, math.MaxInt, 13, true},
		{[api.Classes]int{0, 5, -1, math.MaxInt - 6, 0, math.MinInt, 0, 0, 0, 0, 0, 0, 0, 1}, math.MaxInt, 0, false},
	} {
		if got, ok := class.Rank(c.counts, c.ahead); got != c.class || ok != c.ok {
			t.Errorf("Rank(%v, %d): %d, %v", c.counts, c.ahead, got, ok)
		}
	}
}

// line is what the counts stand for: a class for each one that is counted, in
// increasing order.
func line(counts [api.Classes]int) []int {
	var out []int
	for c, n := range counts {
		for range n { // none if n is negative
			out = append(out, c)
		}
	}
	return out
}

func TestRankOfAllShortCounts(t *testing.T) {
	// Each place of the counts has, in turn, each of a few numbers, beside two
	// others whose places are spread.
	for place := range api.Classes {
		for other := range api.Classes {
			for n := range 7 * 7 {
				var counts [api.Classes]int
				counts[other] = n/7 - 2
				counts[place] += n%7 - 2
				counts[(place+other)%api.Classes]++
				all := line(counts)
				for ahead := -3; ahead < len(all)+3; ahead++ {
					got, ok := class.Rank(counts, ahead)
					if ahead < 0 || ahead >= len(all) {
						if got != 0 || ok {
							t.Errorf("Rank(%v, %d): %d, %v", counts, ahead, got, ok)
						}
					} else if got != all[ahead] || !ok {
						t.Errorf("Rank(%v, %d): %d, %v", counts, ahead, got, ok)
					}
				}
			}
		}
	}
}

func TestRankOfCount(t *testing.T) {
	sizes := []int{90, 1, 17, 5, 8, 4, 4, 5000, 70000, 0, 2, 3, 90, 1024, 600, -4, 31}
	counts := class.Count(sizes...)
	slices.Sort(sizes)
	for ahead, words := range sizes {
		if got, ok := class.Rank(counts, ahead); got != class.Of(words) || !ok {
			t.Errorf("Rank of %d: %d, %v, not the class of %d", ahead, got, ok, words)
		}
	}
	if got, ok := class.Rank(counts, len(sizes)); got != 0 || ok {
		t.Errorf("Rank behind the last one: %d, %v", got, ok)
	}
}

// P4.3

func TestEverySizeIsWithinOneClass(t *testing.T) {
	for words := 1; words <= 8192; words++ {
		var within []int
		for c := -2; c < api.Classes+2; c++ {
			if low, high, ok := class.Bounds(c); ok && low <= words && words <= high {
				within = append(within, c)
			}
		}
		if !slices.Equal(within, []int{class.Of(words)}) {
			t.Errorf("%d words: of class %d, within the bounds of %v", words, class.Of(words), within)
		}
	}
}

// P2 (rules 3 and 4); P1 is that of all the arguments above

func TestArgumentsAreNotChanged(t *testing.T) {
	whole := []int{5, -9, 8193, math.MinInt, 64, math.MaxInt}
	before := slices.Clone(whole)
	for n := range whole {
		// A slice with room behind it, of which the room is not to be changed either.
		first := class.Count(whole[:n]...)
		if again := class.Count(whole[:n]...); again != first {
			t.Errorf("Count(%v): %v, then %v", whole[:n], first, again)
		}
	}
	if !slices.Equal(whole, before) {
		t.Errorf("changed: %v", whole)
	}
	kept := class.Count(whole...)
	clear(whole)
	if kept != [api.Classes]int{0: 2, 3: 1, 6: 1, 13: 2} {
		t.Errorf("Count: %v", kept)
	}
	counts := [api.Classes]int{2, -2, 2}
	class.Rank(counts, 3)
	if counts != [api.Classes]int{2, -2, 2} {
		t.Errorf("Rank changed the counts: %v", counts)
	}
}

func TestResultsAreNew(t *testing.T) {
	first, second := class.Count(1, 2), class.Count(1, 2)
	first[1] = 9
	if third := class.Count(1, 2); second != third || third != [api.Classes]int{1, 1} {
		t.Errorf("Count after a change of its result: %v", third)
	}
}

func TestFailedCallsHaveNoEffect(t *testing.T) {
	for _, c := range noClasses() {
		class.Bounds(c)
		class.Name(c)
		class.Rank([api.Classes]int{1, 1}, c)
	}
	low, high, ok := class.Bounds(3)
	c, has := class.Rank([api.Classes]int{1, 1}, 1)
	if low != 5 || high != 8 || !ok || c != 1 || !has || class.Name(3) != "5-8" || class.Of(5) != 3 {
		t.Errorf("after failed calls: %d, %d, %v, %d, %v, %q", low, high, ok, c, has, class.Name(3))
	}
}
