package shape_test

import (
	"math"
	"slices"
	"testing"

	"haymow/api"
	"haymow/shape"
)

// The limits and what is charged beside the words, written out.
const (
	lastField = 4095
	lastFrame = 256
	largeCost = 6
	frameCost = 2
)

// sh is a shape from its numbers.
func sh(pointers, raws int) api.Shape { return api.Shape{Pointers: pointers, Raws: raws} }

// isRight, wordsOf, isLarge, chargeOf and classOf are what is to be told of a
// shape, without any call of the program.

func isRight(s api.Shape) bool {
	return 0 <= s.Pointers && s.Pointers <= lastField && 0 <= s.Raws && s.Raws <= lastField
}

func wordsOf(s api.Shape) int {
	if !isRight(s) {
		return 0
	}
	return s.Raws + s.Pointers + 1
}

func isLarge(s api.Shape, small int) bool { return small < wordsOf(s) }

func chargeOf(s api.Shape, small int) int {
	switch {
	case !isRight(s):
		return 0
	case isLarge(s, small):
		return wordsOf(s) + largeCost
	}
	return wordsOf(s)
}

// classOf goes up the powers of 2.
func classOf(words int) int {
	c := 0
	for power := 1; power < words && c < 13; power *= 2 {
		c++
	}
	return c
}

// telling are numbers of fields: the ends, and those around each power of 2.
func telling() []int {
	out := []int{0, 10, 100, 1000, lastField}
	for p := 1; p <= lastField; p *= 2 {
		out = append(out, p-1, p, p+1, lastField-p)
	}
	slices.Sort(out)
	return slices.Compact(out)
}

// far are ints around all powers of 2 and their opposites, with the ends of the
// ints: among them those that are small again when they are cut to fewer bits,
// or when their sign is lost.
func far() []int {
	out := []int{math.MinInt, math.MinInt + 1, math.MinInt + 5, math.MaxInt - 1, math.MaxInt}
	for bit := range 63 {
		p := 1 << bit
		out = append(out, p-1, p, p+1, p+5, p+255, -p-1, -p, -p+1, -p+5, -p+255)
	}
	slices.Sort(out)
	return slices.Compact(out)
}

// outside are ints that are not between 0 and most.
func outside(most int) []int {
	return slices.DeleteFunc(far(), func(n int) bool { return n >= 0 && n <= most })
}

// badShapes are shapes of no object, with either number outside or both.
func badShapes(yield func(s api.Shape) bool) {
	for _, n := range outside(lastField) {
		for _, other := range []int{0, 1, 5, 2048, lastField, n, -n, -n - 1, -n - 5, 8 - n} {
			for _, s := range []api.Shape{sh(n, other), sh(other, n)} {
				if !yield(s) {
					return
				}
			}
		}
	}
}

// smalls are numbers of words of a small object: the ones of the settings, and
// those around the number of words of an object, and far ones.
func smalls(words int) []int {
	out := []int{-1, 0, 1, 2, 3, 8, 63, 64, words - 6, words - 2, words - 1, words, words + 1, words + 2, words + 6, -words}
	return append(out, far()...)
}

// checkSize holds the number of words of a shape, and its class, against the
// model.
func checkSize(t *testing.T, s api.Shape) {
	if got, want := shape.Right(s), isRight(s); got != want {
		t.Fatalf("Right(%v): %v", s, got)
	}
	if got, want := shape.Words(s), wordsOf(s); got != want {
		t.Fatalf("Words(%v): %d, not %d", s, got, want)
	}
	if got, want := shape.Class(s), classOf(wordsOf(s)); got != want {
		t.Fatalf("Class(%v): %d, not %d", s, got, want)
	}
}

// checkCharge holds what depends on the words of a small object against the
// model.
func checkCharge(t *testing.T, s api.Shape, small int) {
	if got, want := shape.Large(s, small), isLarge(s, small); got != want {
		t.Fatalf("Large(%v, %d): %v", s, small, got)
	}
	if got, want := shape.Charge(s, small), chargeOf(s, small); got != want {
		t.Fatalf("Charge(%v, %d): %d, not %d", s, small, got, want)
	}
	if got, want := shape.Sum(small, s), chargeOf(s, small); got != want {
		t.Fatalf("Sum(%d, %v): %d, not %d", small, s, got, want)
	}
}

// checkField holds what Slot and Cell tell of a pointer and of a raw word
// against the model.
func checkField(t *testing.T, s api.Shape, n int) {
	want, wantError := 0, api.ErrIndex
	if isRight(s) && 0 <= n && n < s.Pointers {
		want, wantError = n+1, api.OK
	}
	if got, e := shape.Slot(s, n); got != want || e != wantError {
		t.Fatalf("Slot(%v, %d): %d, %d, not %d, %d", s, n, got, e, want, wantError)
	}
	want, wantError = 0, api.ErrIndex
	if isRight(s) && 0 <= n && n < s.Raws {
		want, wantError = n+s.Pointers+1, api.OK
	}
	if got, e := shape.Cell(s, n); got != want || e != wantError {
		t.Fatalf("Cell(%v, %d): %d, %d, not %d, %d", s, n, got, e, want, wantError)
	}
}

// P13.1

func TestSizes(t *testing.T) {
	for _, c := range []struct {
		s     api.Shape
		right bool
		words int
		class int
	}{
		{sh(0, 0), true, 1, 0},
		{sh(1, 0), true, 2, 1},
		{sh(0, 1), true, 2, 1},
		{sh(1, 1), true, 3, 2},
		{sh(1, 2), true, 4, 2},
		{sh(2, 1), true, 4, 2},
		{sh(2, 3), true, 6, 3},
		{sh(4, 0), true, 5, 3},
		{sh(0, 8), true, 9, 4},
		{sh(3, 10), true, 14, 4},
		{sh(31, 32), true, 64, 6},
		{sh(32, 32), true, 65, 7},
		{sh(4095, 0), true, 4096, 12},
		{sh(0, 4095), true, 4096, 12},
		{sh(4095, 1), true, 4097, 13},
		{sh(4094, 4095), true, 8190, 13},
		{sh(4095, 4094), true, 8190, 13},
		{sh(4095, 4095), true, 8191, 13},
		{sh(4096, 0), false, 0, 0},
		{sh(0, 4096), false, 0, 0},
		{sh(4096, 4096), false, 0, 0},
		{sh(-1, 0), false, 0, 0},
		{sh(0, -1), false, 0, 0},
		{sh(-1, -1), false, 0, 0},
		{sh(-1, 1), false, 0, 0}, // their sum could be a right one
		{sh(9, -1), false, 0, 0},
		{sh(4096, -4096), false, 0, 0},
		{sh(math.MaxInt, math.MaxInt), false, 0, 0},
		{sh(math.MinInt, math.MinInt), false, 0, 0},
		{sh(math.MaxInt, math.MinInt), false, 0, 0},
		{sh(1<<32, 1<<32), false, 0, 0},
	} {
		if got := shape.Right(c.s); got != c.right {
			t.Errorf("Right(%v): %v", c.s, got)
		}
		if got := shape.Words(c.s); got != c.words {
			t.Errorf("Words(%v): %d, not %d", c.s, got, c.words)
		}
		if got := shape.Class(c.s); got != c.class {
			t.Errorf("Class(%v): %d, not %d", c.s, got, c.class)
		}
	}
}

func TestSizeOfEveryShape(t *testing.T) {
	for pointers := -2; pointers <= lastField+2; pointers++ {
		for raws := -2; raws <= lastField+2; raws++ {
			checkSize(t, sh(pointers, raws))
		}
	}
}

func TestSizeOfNoObject(t *testing.T) {
	for s := range badShapes {
		checkSize(t, s)
	}
}

func TestLarge(t *testing.T) {
	for _, c := range []struct {
		s     api.Shape
		small int
		large bool
	}{
		{sh(2, 3), 8, false},
		{sh(2, 3), 7, false},
		{sh(2, 3), 6, false}, // as many words as a small one may have
		{sh(2, 3), 5, true},
		{sh(0, 0), 1, false},
		{sh(0, 0), 0, true},
		{sh(0, 0), -1, true},
		{sh(0, 0), 2, false},
		{sh(0, 1), 1, true},
		{sh(1, 0), 1, true},
		{sh(32, 31), 64, false},
		{sh(32, 32), 64, true},
		{sh(4095, 4095), 8191, false},
		{sh(4095, 4095), 8190, true},
		{sh(4095, 4095), math.MaxInt, false},
		{sh(4095, 4095), math.MinInt, true},
		{sh(0, 0), math.MinInt, true},
		{sh(0, 0), math.MaxInt, false},
		// An object that may not be has 0 words.
		{sh(4096, 0), 8, false},
		{sh(4096, 4096), 1, false},
		{sh(0, 4096), 0, false},
		{sh(-1, 20), 8, false},
		{sh(math.MaxInt, math.MaxInt), 64, false},
		{sh(-1, 0), -1, true},
		{sh(4096, 0), math.MinInt, true},
	} {
		if got := shape.Large(c.s, c.small); got != c.large {
			t.Errorf("Large(%v, %d): %v", c.s, c.small, got)
		}
	}
}

func TestCharge(t *testing.T) {
	for _, c := range []struct {
		s      api.Shape
		small  int
		charge int
	}{
		{sh(2, 3), 8, 6}, // the chapter's examples
		{sh(2, 3), 5, 12},
		{sh(2, 3), 6, 6},
		{sh(2, 3), 7, 6},
		{sh(0, 0), 2, 1},
		{sh(0, 0), 1, 1},
		{sh(0, 0), 0, 7},
		{sh(0, 0), -1, 7},
		{sh(0, 0), math.MinInt, 7},
		{sh(1, 0), 2, 2},
		{sh(0, 2), 2, 9},
		{sh(1, 2), 8, 4}, // what layer 33 says of 1, 2
		{sh(10, 0), 2, 17},
		{sh(32, 31), 64, 64},
		{sh(32, 32), 64, 71},
		{sh(4095, 4095), 64, 8197},
		{sh(4095, 4095), 8190, 8197},
		{sh(4095, 4095), 8191, 8191},
		{sh(4095, 4095), math.MaxInt, 8191},
		// There is nothing to charge, not even that it is large.
		{sh(4096, 0), 8, 0},
		{sh(0, 4096), 8, 0},
		{sh(-1, 0), 8, 0},
		{sh(0, -1), 0, 0},
		{sh(-1, 9), 8, 0},
		{sh(9, -1), 5, 0},
		{sh(-1, 0), -1, 0},
		{sh(4096, 4096), math.MinInt, 0},
		{sh(math.MaxInt, math.MaxInt), 8, 0},
		{sh(math.MinInt, math.MinInt), 8, 0},
	} {
		if got := shape.Charge(c.s, c.small); got != c.charge {
			t.Errorf("Charge(%v, %d): %d, not %d", c.s, c.small, got, c.charge)
		}
		if got := shape.Sum(c.small, c.s); got != c.charge {
			t.Errorf("Sum(%d, %v): %d, not %d", c.small, c.s, got, c.charge)
		}
	}
}

func TestChargeOfManyShapes(t *testing.T) {
	for _, pointers := range telling() {
		for _, raws := range telling() {
			for _, small := range smalls(pointers + raws + 1) {
				checkCharge(t, sh(pointers, raws), small)
			}
		}
	}
	for pointers := -3; pointers < 40; pointers++ {
		for raws := -3; raws < 40; raws++ {
			for small := -5; small < 90; small++ {
				checkCharge(t, sh(pointers, raws), small)
			}
		}
	}
	for s := range badShapes {
		for _, small := range []int{math.MinInt, -1, 0, 1, 2, 8, 64, 8191, math.MaxInt, s.Pointers, s.Raws} {
			checkCharge(t, s, small)
		}
	}
}

func TestFrame(t *testing.T) {
	for _, c := range []struct{ slots, charge int }{
		{0, 2}, {1, 3}, {2, 4}, {3, 5}, {100, 102}, {254, 256}, {255, 257}, {256, 258},
		{257, 0}, {258, 0}, {512, 0}, {-1, 0}, {-2, 0}, {-3, 0}, {-256, 0}, {math.MinInt, 0}, {math.MaxInt, 0}, {math.MaxInt - 1, 0},
	} {
		if got := shape.Frame(c.slots); got != c.charge {
			t.Errorf("Frame(%d): %d, not %d", c.slots, got, c.charge)
		}
	}
	for slots := range lastFrame + 1 {
		if got := shape.Frame(slots); got != slots+frameCost {
			t.Errorf("Frame(%d): %d", slots, got)
		}
	}
	list := outside(lastFrame)
	for n := range 5000 {
		list = append(list, lastFrame+1+n, -1-n)
	}
	for _, slots := range list {
		if got := shape.Frame(slots); got != 0 {
			t.Errorf("Frame(%d): %d, not 0", slots, got)
		}
	}
}

func TestSum(t *testing.T) {
	for _, c := range []struct {
		small int
		list  []api.Shape
		sum   int
	}{
		{8, nil, 0},
		{-1, nil, 0},
		{8, []api.Shape{}, 0},
		{8, []api.Shape{sh(2, 3)}, 6},
		{5, []api.Shape{sh(2, 3)}, 12},
		{8, []api.Shape{sh(2, 3), sh(2, 3)}, 12}, // each of them, though they are equal
		{8, []api.Shape{sh(0, 0), sh(0, 0), sh(0, 0)}, 3},
		{8, []api.Shape{sh(1, 2), sh(1, 9)}, 21},
		{8, []api.Shape{sh(1, 9), sh(1, 2)}, 21},
		{5, []api.Shape{sh(2, 2), sh(2, 3), sh(3, 3)}, 30},
		{64, []api.Shape{sh(3, 10), sh(3, 10), sh(0, 0)}, 29},
		{2, []api.Shape{sh(4095, 4095), sh(0, 1), sh(4095, 0)}, 12301},
		{math.MaxInt, []api.Shape{sh(4095, 4095), sh(0, 1), sh(4095, 0)}, 12289},
		{math.MinInt, []api.Shape{sh(4095, 4095), sh(0, 1), sh(4095, 0)}, 12307},
		// Shapes of no object add nothing, wherever they stand.
		{8, []api.Shape{sh(-1, 0)}, 0},
		{8, []api.Shape{sh(4096, 0), sh(2, 3)}, 6},
		{8, []api.Shape{sh(2, 3), sh(0, 4096)}, 6},
		{8, []api.Shape{sh(2, 3), sh(-9, 3), sh(0, 0)}, 7},
		{-1, []api.Shape{sh(-1, -1), sh(2, 3), sh(4096, 4096)}, 12},
		{8, []api.Shape{sh(math.MaxInt, 0), sh(0, math.MaxInt), sh(1, 1), sh(math.MinInt, math.MinInt)}, 3},
	} {
		if got := shape.Sum(c.small, c.list...); got != c.sum {
			t.Errorf("Sum(%d, %v): %d, not %d", c.small, c.list, got, c.sum)
		}
	}
	if got := shape.Sum(8); got != 0 {
		t.Errorf("Sum(8): %d", got)
	}
	if got := shape.Sum(8, sh(1, 2), sh(1, 9), sh(0, 0)); got != 22 {
		t.Errorf("Sum(8, ...): %d", got)
	}
}

func TestSumOfGrowingLists(t *testing.T) {
	for _, small := range []int{-1, 0, 2, 8, 64, 1000, 8191} {
		var list []api.Shape
		want := 0
		for n := range 500 {
			if got := shape.Sum(small, list...); got != want {
				t.Fatalf("Sum(%d, ...) of %d shapes: %d, not %d", small, n, got, want)
			}
			next := sh(n*37%4200-50, n*91%4300-100)
			if n%3 == 0 {
				next = sh(n%9, n%7)
			}
			list = append(list, next)
			want += chargeOf(next, small)
		}
	}
}

func TestSumOfManyShapes(t *testing.T) {
	// More than a number of 32 bits can hold.
	list := slices.Repeat([]api.Shape{sh(4095, 4095)}, 600000)
	if got := shape.Sum(64, list...); got != 4918200000 {
		t.Errorf("Sum: %d", got)
	}
	if got := shape.Sum(8191, list...); got != 4914600000 {
		t.Errorf("Sum: %d", got)
	}
}

// P13.2

func TestSlot(t *testing.T) {
	for _, c := range []struct {
		s  api.Shape
		n  int
		at int
		e  api.Errno
	}{
		{sh(2, 3), 0, 1, api.OK},
		{sh(2, 3), 1, 2, api.OK},
		{sh(2, 3), 2, 0, api.ErrIndex},
		{sh(2, 3), 3, 0, api.ErrIndex},
		{sh(2, 3), -1, 0, api.ErrIndex},
		{sh(3, 10), 2, 3, api.OK},
		{sh(3, 10), 3, 0, api.ErrIndex},
		{sh(0, 0), 0, 0, api.ErrIndex},
		{sh(0, 5), 0, 0, api.ErrIndex},
		{sh(1, 0), 0, 1, api.OK},
		{sh(1, 4095), 0, 1, api.OK},
		{sh(4095, 0), 4094, 4095, api.OK},
		{sh(4095, 4095), 4094, 4095, api.OK},
		{sh(4095, 4095), 4095, 0, api.ErrIndex},
		{sh(4095, 0), 4095, 0, api.ErrIndex},
		{sh(2, 3), math.MaxInt, 0, api.ErrIndex},
		{sh(2, 3), math.MinInt, 0, api.ErrIndex},
		{sh(2, 3), 1 << 32, 0, api.ErrIndex},
		// There would be such a pointer, if there were such objects.
		{sh(4096, 0), 0, 0, api.ErrIndex},
		{sh(4096, 0), 5, 0, api.ErrIndex},
		{sh(2, 4096), 0, 0, api.ErrIndex},
		{sh(2, -1), 1, 0, api.ErrIndex},
		{sh(-1, 2), -2, 0, api.ErrIndex},
		{sh(-1, 2), -1, 0, api.ErrIndex},
		{sh(-1, 2), 0, 0, api.ErrIndex},
		{sh(math.MaxInt, 0), 0, 0, api.ErrIndex},
		{sh(math.MaxInt, 0), math.MaxInt - 1, 0, api.ErrIndex},
	} {
		if got, e := shape.Slot(c.s, c.n); got != c.at || e != c.e {
			t.Errorf("Slot(%v, %d): %d, %d, not %d, %d", c.s, c.n, got, e, c.at, c.e)
		}
	}
}

func TestCell(t *testing.T) {
	for _, c := range []struct {
		s  api.Shape
		n  int
		at int
		e  api.Errno
	}{
		{sh(2, 3), 1, 4, api.OK}, // the chapter's example
		{sh(2, 3), 0, 3, api.OK},
		{sh(2, 3), 2, 5, api.OK},
		{sh(2, 3), 3, 0, api.ErrIndex},
		{sh(2, 3), 4, 0, api.ErrIndex},
		{sh(2, 3), -1, 0, api.ErrIndex}, // a word of the object, but a pointer
		{sh(2, 3), -3, 0, api.ErrIndex},
		{sh(3, 10), 9, 13, api.OK},
		{sh(3, 10), 10, 0, api.ErrIndex},
		{sh(0, 0), 0, 0, api.ErrIndex},
		{sh(5, 0), 0, 0, api.ErrIndex},
		{sh(0, 1), 0, 1, api.OK},
		{sh(4095, 1), 0, 4096, api.OK},
		{sh(0, 4095), 4094, 4095, api.OK},
		{sh(4095, 4095), 0, 4096, api.OK},
		{sh(4095, 4095), 4094, 8190, api.OK},
		{sh(4095, 4095), 4095, 0, api.ErrIndex},
		{sh(0, 4095), 4095, 0, api.ErrIndex},
		{sh(2, 3), math.MaxInt, 0, api.ErrIndex},
		{sh(2, 3), math.MinInt, 0, api.ErrIndex},
		{sh(2, 3), 1 << 32, 0, api.ErrIndex},
		// There would be such a raw word, if there were such objects.
		{sh(0, 4096), 0, 0, api.ErrIndex},
		{sh(0, 4096), 5, 0, api.ErrIndex},
		{sh(4096, 3), 0, 0, api.ErrIndex},
		{sh(-1, 3), 1, 0, api.ErrIndex},
		{sh(2, -1), -2, 0, api.ErrIndex},
		{sh(2, -1), -1, 0, api.ErrIndex},
		{sh(2, -1), 0, 0, api.ErrIndex},
		{sh(math.MaxInt, math.MaxInt), 0, 0, api.ErrIndex},
		{sh(0, math.MaxInt), math.MaxInt - 1, 0, api.ErrIndex},
	} {
		if got, e := shape.Cell(c.s, c.n); got != c.at || e != c.e {
			t.Errorf("Cell(%v, %d): %d, %d, not %d, %d", c.s, c.n, got, e, c.at, c.e)
		}
	}
}

func TestFieldsOfSmallShapes(t *testing.T) {
	for pointers := -3; pointers < 40; pointers++ {
		for raws := -3; raws < 40; raws++ {
			for n := -45; n < 90; n++ {
				checkField(t, sh(pointers, raws), n)
			}
		}
	}
}

func TestFieldsFarOutside(t *testing.T) {
	for _, pointers := range telling() {
		for _, raws := range telling() {
			s := sh(pointers, raws)
			for _, n := range far() {
				checkField(t, s, n)
			}
			for _, n := range []int{pointers - 1, pointers, pointers + 1, raws - 1, raws, raws + 1, pointers + raws, pointers + raws + 1, -pointers, -raws} {
				checkField(t, s, n)
			}
		}
	}
}

func TestFieldsOfNoObject(t *testing.T) {
	for s := range badShapes {
		for _, n := range []int{0, 1, 5, lastField - 1, -1, s.Pointers - 1, s.Pointers, s.Pointers + 1, s.Raws - 1, s.Raws, s.Raws + 1, math.MaxInt, math.MinInt} {
			checkField(t, s, n)
		}
	}
}

// P13.3

// holders counts, for each word of an object, the pointers and raw words that it is.
func holders(t *testing.T, s api.Shape) []int {
	counts := make([]int, shape.Words(s))
	for n := -2; n < lastField+2; n++ {
		checkField(t, s, n)
		if at, e := shape.Slot(s, n); e == api.OK {
			counts[at]++
		}
		if at, e := shape.Cell(s, n); e == api.OK {
			counts[at]++
		}
	}
	return counts
}

// checkHolders holds that each word but the first is one field, and the first none.
func checkHolders(t *testing.T, s api.Shape) {
	counts := holders(t, s)
	if len(counts) == 0 || counts[0] != 0 {
		t.Fatalf("%v: %v", s, counts)
	}
	for at, n := range counts[1:] {
		if n != 1 {
			t.Fatalf("%v: word %d is %d pointers and raw words", s, at+1, n)
		}
	}
}

func TestEachWordIsOneField(t *testing.T) {
	for pointers := range 30 {
		for raws := range 30 {
			checkHolders(t, sh(pointers, raws))
		}
	}
	for _, pointers := range telling() {
		for _, raws := range []int{0, 1, 7, 64, 2048, lastField - 1, lastField} {
			checkHolders(t, sh(pointers, raws))
			checkHolders(t, sh(raws, pointers))
		}
	}
}

// P2 (rules 3 and 4); P1 is that of all the arguments above

func TestArgumentsAreNotChanged(t *testing.T) {
	whole := []api.Shape{sh(2, 3), sh(-1, 0), sh(1, 9), sh(4096, 4096), sh(0, 0), sh(math.MinInt, math.MaxInt), sh(7, 7)}
	before := slices.Clone(whole)
	for n := range len(whole) + 1 {
		// A slice with room behind it, of which the room is not to be changed either.
		first := shape.Sum(8, whole[:n]...)
		if again := shape.Sum(8, whole[:n]...); again != first {
			t.Errorf("Sum(8, %v): %d, then %d", whole[:n], first, again)
		}
	}
	if !slices.Equal(whole, before) {
		t.Errorf("changed: %v", whole)
	}
}

func TestArgumentsAreNotRetained(t *testing.T) {
	list := []api.Shape{sh(2, 3), sh(1, 9)}
	if got := shape.Sum(8, list...); got != 23 {
		t.Errorf("Sum: %d", got)
	}
	clear(list)
	if got := shape.Sum(8, list...); got != 2 {
		t.Errorf("Sum of the list that was changed: %d", got)
	}
	if got := shape.Sum(8, sh(2, 3), sh(1, 9)); got != 23 {
		t.Errorf("Sum again: %d", got)
	}
}

func TestFailedCallsHaveNoEffect(t *testing.T) {
	for s := range badShapes {
		shape.Right(s)
		shape.Words(s)
		shape.Large(s, -1)
		shape.Charge(s, -1)
		shape.Frame(s.Pointers)
		shape.Sum(-1, s, s)
		shape.Class(s)
		shape.Slot(s, 0)
		shape.Cell(s, 0)
	}
	s := sh(2, 3)
	if !shape.Right(s) || shape.Words(s) != 6 || shape.Large(s, 6) || shape.Charge(s, 5) != 12 || shape.Class(s) != 3 {
		t.Errorf("after failed calls: %v, %d, %v, %d, %d", shape.Right(s), shape.Words(s), shape.Large(s, 6), shape.Charge(s, 5), shape.Class(s))
	}
	at, e := shape.Slot(s, 1)
	at2, e2 := shape.Cell(s, 1)
	if at != 2 || e != api.OK || at2 != 4 || e2 != api.OK || shape.Frame(0) != 2 || shape.Sum(8, s) != 6 {
		t.Errorf("after failed calls: %d, %d, %d, %d, %d, %d", at, e, at2, e2, shape.Frame(0), shape.Sum(8, s))
	}
}
