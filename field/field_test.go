package field_test

import (
	"iter"
	"math"
	"math/big"
	"slices"
	"testing"

	"haymow/api"
	"haymow/field"
)

const top = 1<<64 - 1

// words are those that most tests read and change: the ends, the bits at the
// ends and in the middle, and some of no regular pattern.
func words() []uint64 {
	return []uint64{0, 1, 2, 5, 0xf0, 0xff, 0xffffffff, 1 << 32, 0x123456789abcdef0, 0xfedcba9876543210,
		0x5555555555555555, 0xaaaaaaaaaaaaaaaa, 1<<63 - 1, 1 << 63, 1<<63 + 1, top - 1, top}
}

// farNumbers are values of At and Size from which a sum or a difference wraps
// round, or which are right again when they are cut to fewer bits.
func farNumbers() []int {
	return []int{math.MinInt, math.MinInt + 1, math.MinInt + 63, math.MinInt + 64, math.MinInt32, -1 << 32, -256, -65, -64, -63,
		127, 128, 256, 257, 1 << 16, 1<<31 - 1, 1 << 31, 1 << 32, 1<<32 + 1,
		math.MaxInt - 64, math.MaxInt - 63, math.MaxInt - 1, math.MaxInt}
}

// fields are all right fields, all that miss being right by little, and those
// of the far numbers with one another and with ordinary ones.
func fields() []field.Field {
	var near []int
	for n := -3; n <= 67; n++ {
		near = append(near, n)
	}
	far := farNumbers()
	var out []field.Field
	for _, at := range slices.Concat(near, far) {
		for _, size := range slices.Concat(near, far) {
			out = append(out, field.Field{At: at, Size: size})
		}
	}
	return out
}

func rightFields() []field.Field {
	var out []field.Field
	for at := range 64 {
		for size := 1; at+size <= 64; size++ {
			out = append(out, field.Field{At: at, Size: size})
		}
	}
	return out
}

// mayBe is Right by numbers that do not overflow.
func mayBe(f field.Field) bool {
	end := new(big.Int).Add(big.NewInt(int64(f.At)), big.NewInt(int64(f.Size)))
	return f.At >= 0 && f.Size > 0 && end.Cmp(big.NewInt(64)) <= 0
}

func has(w uint64, bit int) bool { return w/power(bit)%2 == 1 }

// power is 2 to the power of n, which is below 64, without a shift.
func power(n int) uint64 {
	p := uint64(1)
	for range n {
		p *= 2
	}
	return p
}

func in(bit int, f field.Field) bool { return bit >= f.At && bit-f.At < f.Size }

// numbersAround are numbers that a right field just holds and just does not,
// and whether it holds them.
func numbersAround(f field.Field) map[uint64]bool {
	out := map[uint64]bool{0: true, 1: true, power(f.Size - 1): true, power(f.Size-1) - 1: true}
	if f.Size == 64 {
		out[top], out[top-1], out[0x123456789abcdef0] = true, true, true
		return out
	}
	most := power(f.Size) - 1
	out[most], out[most+1], out[top], out[top-most], out[1<<63] = true, false, false, false, false
	return out
}

// P2.1

func TestRight(t *testing.T) {
	for _, c := range []struct {
		at, size int
		want     bool
	}{
		{4, 3, true},
		{0, 1, true},
		{0, 64, true},
		{0, 65, false},
		{63, 1, true},
		{63, 2, false},
		{64, 1, false},
		{60, 4, true},
		{60, 5, false},
		{1, 63, true},
		{1, 64, false},
		{0, 0, false},
		{5, 0, false},
		{63, 0, false},
		{64, 0, false},
		{-1, 1, false},
		{-1, 2, false},
		{-1, 65, false},
		{-64, 128, false},
		{5, -1, false},
		{64, -1, false},
		{70, -10, false},
		{math.MaxInt, 1, false},
		{math.MaxInt, math.MaxInt, false},
		{1, math.MaxInt, false},
		{0, math.MaxInt, false},
		{math.MinInt, 64, false},
		{math.MinInt, math.MaxInt, false},
		{math.MinInt, math.MinInt, false},
		{3, math.MinInt, false},
		{math.MaxInt, math.MinInt, false},
	} {
		if got := field.Right(field.Field{At: c.at, Size: c.size}); got != c.want {
			t.Errorf("Right(%d, %d): %v", c.at, c.size, got)
		}
	}
}

func TestRightOfAllFields(t *testing.T) {
	right := 0
	for _, f := range fields() {
		if got := field.Right(f); got != mayBe(f) {
			t.Errorf("Right(%v): %v", f, got)
		}
		if field.Right(f) {
			right++
		}
	}
	if right != 64*65/2 {
		t.Errorf("%d fields are right", right)
	}
}

func TestMask(t *testing.T) {
	for _, c := range []struct {
		at, size int
		want     uint64
	}{
		{4, 3, 0x70},
		{0, 1, 1},
		{63, 1, 1 << 63},
		{0, 64, top},
		{1, 63, top - 1},
		{0, 63, 1<<63 - 1},
		{32, 32, 0xffffffff00000000},
		{0, 0, 0},
		{63, 2, 0},
		{64, 1, 0},
		{-1, 2, 0},
		{3, -1, 0},
		{0, 65, 0},
		{math.MaxInt, 1, 0},
		{1, math.MaxInt, 0},
		{math.MinInt, math.MinInt, 0},
	} {
		if got := field.Mask(field.Field{At: c.at, Size: c.size}); got != c.want {
			t.Errorf("Mask(%d, %d): %x, not %x", c.at, c.size, got, c.want)
		}
	}
}

func TestMaskOfAllFields(t *testing.T) {
	for _, f := range fields() {
		got := field.Mask(f)
		if !mayBe(f) && got != 0 {
			t.Errorf("Mask(%v): %x", f, got)
		}
		for bit := range 64 {
			if mayBe(f) && has(got, bit) != in(bit, f) {
				t.Errorf("Mask(%v): %x, of which bit %d is wrong", f, got, bit)
			}
		}
	}
}

func TestGet(t *testing.T) {
	for _, c := range []struct {
		w        uint64
		at, size int
		want     uint64
	}{
		{0xf0, 4, 2, 3}, // the chapter's example
		{0xff, 4, 3, 7},
		{0x123456789abcdef0, 4, 8, 0xef},
		{0x123456789abcdef0, 0, 64, 0x123456789abcdef0},
		{0x123456789abcdef0, 60, 4, 1},
		{0x2, 0, 2, 2}, // the least significant bit first
		{1 << 63, 63, 1, 1},
		{1 << 63, 62, 2, 2},
		{1 << 63, 62, 1, 0},
		{top, 0, 64, top},
		{top, 1, 63, 1<<63 - 1},
		{top, 63, 1, 1},
		{0, 0, 64, 0},
		{top, 0, 0, 0},
		{top, 63, 2, 0},
		{top, 64, 1, 0},
		{top, 0, 65, 0},
		{top, -1, 2, 0},
		{top, 3, -1, 0},
		{top, math.MaxInt, math.MaxInt, 0},
		{top, math.MinInt, math.MaxInt, 0},
	} {
		if got := field.Get(c.w, field.Field{At: c.at, Size: c.size}); got != c.want {
			t.Errorf("Get(%x, %d, %d): %x, not %x", c.w, c.at, c.size, got, c.want)
		}
	}
}

func TestGetOfAllFields(t *testing.T) {
	for _, f := range fields() {
		for _, w := range words() {
			var want uint64
			for bit := 63; bit >= 0 && mayBe(f); bit-- {
				if in(bit, f) {
					want *= 2
				}
				if in(bit, f) && has(w, bit) {
					want++
				}
			}
			if got := field.Get(w, f); got != want {
				t.Errorf("Get(%x, %v): %x, not %x", w, f, got, want)
			}
		}
	}
}

func TestPut(t *testing.T) {
	for _, c := range []struct {
		w        uint64
		at, size int
		n, want  uint64
		e        api.Errno
	}{
		{0xff, 4, 3, 2, 0xaf, api.OK},
		{0, 4, 3, 7, 0x70, api.OK},
		{0xffff, 4, 3, 0, 0xff8f, api.OK},
		{0, 63, 1, 1, 1 << 63, api.OK},
		{top, 63, 1, 0, 1<<63 - 1, api.OK},
		{0x123456789abcdef0, 0, 64, 0xfedcba9876543210, 0xfedcba9876543210, api.OK},
		{top, 0, 64, 0, 0, api.OK},
		{0, 0, 64, top, top, api.OK},
		{1, 1, 63, 1<<63 - 1, top, api.OK},
		// A number of one bit too many, and of many.
		{0, 4, 3, 8, 0, api.ErrRange},
		{0xff, 4, 3, 8, 0, api.ErrRange},
		{top, 63, 1, 2, 0, api.ErrRange},
		{top, 1, 63, 1 << 63, 0, api.ErrRange},
		{top, 0, 1, top, 0, api.ErrRange},
		{top, 0, 1, 1 << 63, 0, api.ErrRange},
		{top, 60, 4, 1 << 4, 0, api.ErrRange}, // it would leave the word at the top
		// A field that may not be, with a number that fits and with one that would fit in none: ErrArg is told first.
		{top, 0, 0, 0, 0, api.ErrArg},
		{top, 0, 0, top, 0, api.ErrArg},
		{top, 60, 5, 1, 0, api.ErrArg},
		{top, 60, 5, top, 0, api.ErrArg},
		{top, 64, 1, 1, 0, api.ErrArg},
		{top, 0, 65, 1, 0, api.ErrArg},
		{top, -1, 2, 1, 0, api.ErrArg},
		{top, 3, -1, 0, 0, api.ErrArg},
		{top, 3, -1, 1, 0, api.ErrArg},
		{top, math.MaxInt, 1, 0, 0, api.ErrArg},
		{top, 1, math.MaxInt, top, 0, api.ErrArg},
		{top, math.MaxInt, math.MaxInt, 0, 0, api.ErrArg},
		{top, math.MinInt, math.MinInt, 0, 0, api.ErrArg},
	} {
		got, e := field.Put(c.w, field.Field{At: c.at, Size: c.size}, c.n)
		if got != c.want || e != c.e {
			t.Errorf("Put(%x, %d, %d, %x): %x, %d", c.w, c.at, c.size, c.n, got, e)
		}
	}
}

// checkPut holds one call of Put against the promise, bit by bit.
func checkPut(t *testing.T, w uint64, f field.Field, n uint64) {
	got, e := field.Put(w, f, n)
	for bit := range 64 {
		want := has(w, bit)
		if in(bit, f) {
			want = has(n, bit-f.At)
		}
		if e != api.OK || has(got, bit) != want {
			t.Fatalf("Put(%x, %v, %x): %x, %d, of which bit %d is wrong", w, f, n, got, e, bit)
		}
	}
}

func TestPutOfAllFields(t *testing.T) {
	for _, f := range fields() {
		for _, w := range []uint64{0, 0x123456789abcdef0, 0xaaaaaaaaaaaaaaaa, top} {
			if !mayBe(f) {
				for _, n := range []uint64{0, 1, top} {
					if got, e := field.Put(w, f, n); got != 0 || e != api.ErrArg {
						t.Errorf("Put(%x, %v, %x): %x, %d", w, f, n, got, e)
					}
				}
				continue
			}
			for n, fits := range numbersAround(f) {
				if fits {
					checkPut(t, w, f, n)
				} else if got, e := field.Put(w, f, n); got != 0 || e != api.ErrRange {
					t.Errorf("Put(%x, %v, %x): %x, %d", w, f, n, got, e)
				}
			}
		}
	}
}

// P2.2

func TestApart(t *testing.T) {
	for _, c := range []struct {
		fields []field.Field
		want   bool
	}{
		{nil, true},
		{[]field.Field{}, true},
		{[]field.Field{{At: 4, Size: 3}}, true},
		{[]field.Field{{At: 0, Size: 64}}, true},
		// Fields that touch, in each order, and that fill the word.
		{[]field.Field{{At: 0, Size: 4}, {At: 4, Size: 4}}, true},
		{[]field.Field{{At: 4, Size: 4}, {At: 0, Size: 4}}, true},
		{[]field.Field{{At: 0, Size: 1}, {At: 1, Size: 62}, {At: 63, Size: 1}}, true},
		{[]field.Field{{At: 63, Size: 1}, {At: 0, Size: 1}, {At: 1, Size: 62}}, true},
		{[]field.Field{{At: 32, Size: 32}, {At: 0, Size: 32}}, true},
		{[]field.Field{{At: 8, Size: 8}, {At: 40, Size: 3}, {At: 0, Size: 4}}, true},
		// Fields that share one bit, at each end, next to each other or not.
		{[]field.Field{{At: 0, Size: 5}, {At: 4, Size: 4}}, false},
		{[]field.Field{{At: 4, Size: 4}, {At: 0, Size: 5}}, false},
		{[]field.Field{{At: 4, Size: 3}, {At: 6, Size: 1}}, false},
		{[]field.Field{{At: 63, Size: 1}, {At: 63, Size: 1}}, false},
		{[]field.Field{{At: 0, Size: 1}, {At: 0, Size: 1}}, false},
		{[]field.Field{{At: 0, Size: 4}, {At: 4, Size: 4}, {At: 3, Size: 1}}, false},
		{[]field.Field{{At: 0, Size: 4}, {At: 8, Size: 4}, {At: 4, Size: 4}, {At: 11, Size: 2}}, false},
		{[]field.Field{{At: 0, Size: 64}, {At: 63, Size: 1}}, false},
		{[]field.Field{{At: 5, Size: 1}, {At: 0, Size: 64}}, false},
		{[]field.Field{{At: 10, Size: 4}, {At: 8, Size: 16}}, false},
		// Fields that may not be, in each place.
		{[]field.Field{{}}, false},
		{[]field.Field{{At: 4, Size: 0}}, false},
		{[]field.Field{{At: 60, Size: 5}}, false},
		{[]field.Field{{At: -1, Size: 2}}, false},
		{[]field.Field{{At: 4, Size: -1}}, false},
		{[]field.Field{{At: math.MaxInt, Size: math.MaxInt}}, false},
		{[]field.Field{{At: math.MinInt, Size: math.MinInt}}, false},
		{[]field.Field{{At: 4, Size: 0}, {At: 8, Size: 1}}, false},
		{[]field.Field{{At: 8, Size: 1}, {At: 4, Size: 0}}, false},
		{[]field.Field{{At: 8, Size: 1}, {At: 64, Size: 1}, {At: 9, Size: 1}}, false},
	} {
		if got := field.Apart(c.fields...); got != c.want {
			t.Errorf("Apart(%v): %v", c.fields, got)
		}
	}
}

func TestApartOfAllPairs(t *testing.T) {
	for _, a := range rightFields() {
		for _, b := range rightFields() {
			want := a.At+a.Size <= b.At || b.At+b.Size <= a.At
			if got := field.Apart(a, b); got != want {
				t.Fatalf("Apart(%v, %v): %v", a, b, got)
			}
		}
	}
	for _, f := range fields() {
		good := field.Field{At: 20, Size: 1}
		want := mayBe(f) && !in(good.At, f)
		if field.Apart(f) != mayBe(f) || field.Apart(good, f) != want || field.Apart(f, good) != want {
			t.Errorf("Apart with %v", f)
		}
	}
}

// singles are the 64 fields of one bit, the highest first.
func singles() []field.Field {
	var out []field.Field
	for at := 63; at >= 0; at-- {
		out = append(out, field.Field{At: at, Size: 1})
	}
	return out
}

func TestApartOfManyFields(t *testing.T) {
	if !field.Apart(singles()...) {
		t.Errorf("all bits")
	}
	for at := range 64 {
		if field.Apart(append(singles(), field.Field{At: at, Size: 1})...) {
			t.Errorf("bit %d twice", at)
		}
	}
	if field.Apart(slices.Repeat(singles(), 1000)...) {
		t.Errorf("all bits, many times")
	}
}

func TestPack(t *testing.T) {
	nibbles := []field.Field{{At: 8, Size: 8}, {At: 0, Size: 4}}
	for _, c := range []struct {
		fields  []field.Field
		numbers []uint64
		want    uint64
		e       api.Errno
	}{
		{nil, nil, 0, api.OK},
		{[]field.Field{}, []uint64{}, 0, api.OK},
		{nibbles, []uint64{3, 9}, 0x309, api.OK},
		{nibbles, []uint64{0, 0}, 0, api.OK},
		{nibbles, []uint64{255, 15}, 0xff0f, api.OK},
		{[]field.Field{{At: 0, Size: 64}}, []uint64{top}, top, api.OK},
		{[]field.Field{{At: 0, Size: 64}}, []uint64{0}, 0, api.OK},
		{[]field.Field{{At: 63, Size: 1}, {At: 0, Size: 1}, {At: 1, Size: 62}}, []uint64{1, 0, 1<<62 - 1}, top - 1, api.OK},
		{[]field.Field{{At: 0, Size: 32}, {At: 32, Size: 32}}, []uint64{0x9abcdef0, 0x12345678}, 0x123456789abcdef0, api.OK},
		// A number that does not fit, in each place.
		{nibbles, []uint64{256, 9}, 0, api.ErrRange},
		{nibbles, []uint64{3, 16}, 0, api.ErrRange},
		{nibbles, []uint64{top, top}, 0, api.ErrRange},
		{[]field.Field{{At: 1, Size: 63}}, []uint64{1 << 63}, 0, api.ErrRange},
		// Fewer numbers than fields, or more, which comes before a number that does not fit.
		{nibbles, nil, 0, api.ErrArg},
		{nibbles, []uint64{3}, 0, api.ErrArg},
		{nibbles, []uint64{256}, 0, api.ErrArg},
		{nibbles, []uint64{3, 9, 0}, 0, api.ErrArg},
		{nibbles, []uint64{256, 9, 0}, 0, api.ErrArg},
		{nil, []uint64{0}, 0, api.ErrArg},
		{[]field.Field{{At: 0, Size: 64}}, nil, 0, api.ErrArg},
		// Fields that share a bit or may not be, which comes before it too.
		{[]field.Field{{At: 0, Size: 5}, {At: 4, Size: 4}}, []uint64{1, 1}, 0, api.ErrArg},
		{[]field.Field{{At: 0, Size: 5}, {At: 4, Size: 4}}, []uint64{0, 0}, 0, api.ErrArg},
		{[]field.Field{{At: 0, Size: 5}, {At: 4, Size: 4}}, []uint64{32, 16}, 0, api.ErrArg},
		{[]field.Field{{At: 0, Size: 1}, {At: 63, Size: 1}, {At: 0, Size: 64}}, []uint64{2, 2, 2}, 0, api.ErrArg},
		{[]field.Field{{At: 4, Size: 0}}, []uint64{0}, 0, api.ErrArg},
		{[]field.Field{{At: 0, Size: 1}, {At: 60, Size: 5}}, []uint64{2, 0}, 0, api.ErrArg},
		{[]field.Field{{At: 0, Size: 1}, {At: -1, Size: 1}}, []uint64{top, 0}, 0, api.ErrArg},
		{[]field.Field{{At: 0, Size: 1}, {At: 5, Size: -1}}, []uint64{1, 1}, 0, api.ErrArg},
		{[]field.Field{{At: math.MaxInt, Size: math.MaxInt}}, []uint64{1}, 0, api.ErrArg},
		{[]field.Field{{At: math.MinInt, Size: math.MinInt}}, []uint64{0}, 0, api.ErrArg},
	} {
		got, e := field.Pack(c.fields, c.numbers...)
		if got != c.want || e != c.e {
			t.Errorf("Pack(%v, %x): %x, %d", c.fields, c.numbers, got, e)
		}
	}
}

func TestPackOfEverySplit(t *testing.T) {
	for low := 1; low < 64; low++ {
		parts := []field.Field{{At: low, Size: 64 - low}, {At: 0, Size: low}}
		for _, w := range words() {
			high, rest := w/power(low), w%power(low)
			if got, e := field.Pack(parts, high, rest); got != w || e != api.OK {
				t.Errorf("Pack(%v, %x, %x): %x, %d", parts, high, rest, got, e)
			}
			if got, e := field.Pack(parts, high, power(low)); got != 0 || e != api.ErrRange {
				t.Errorf("Pack(%v, %x, %x): %x, %d", parts, high, power(low), got, e)
			}
			if got, e := field.Pack(parts[1:], rest); got != rest || e != api.OK {
				t.Errorf("Pack(%v, %x): %x, %d", parts[1:], rest, got, e)
			}
		}
	}
}

func TestPackOfSingleBits(t *testing.T) {
	for _, w := range words() {
		var numbers []uint64
		for _, f := range singles() {
			numbers = append(numbers, w/power(f.At)%2)
		}
		if got, e := field.Pack(singles(), numbers...); got != w || e != api.OK {
			t.Errorf("Pack of the bits of %x: %x, %d", w, got, e)
		}
		for i := range numbers {
			wrong := slices.Clone(numbers)
			wrong[i] = 2
			if got, e := field.Pack(singles(), wrong...); got != 0 || e != api.ErrRange {
				t.Errorf("Pack with a 2 at %d: %x, %d", i, got, e)
			}
		}
	}
}

// P2.3

func TestOnesAndPlaces(t *testing.T) {
	for _, c := range []struct {
		w    uint64
		want []int
	}{
		{0, nil},
		{1, []int{0}},
		{5, []int{0, 2}}, // the chapter's example
		{0x309, []int{0, 3, 8, 9}},
		{1 << 63, []int{63}},
		{1<<63 + 1, []int{0, 63}},
		{1<<32 + 1<<31, []int{31, 32}},
	} {
		if got := field.Ones(c.w); got != len(c.want) {
			t.Errorf("Ones(%x): %d", c.w, got)
		}
		if got := slices.Collect(field.Places(c.w)); !slices.Equal(got, c.want) {
			t.Errorf("Places(%x): %v, not %v", c.w, got, c.want)
		}
	}
	if field.Ones(top) != 64 || field.Ones(top-1) != 63 {
		t.Errorf("Ones of whole words: %d, %d", field.Ones(top), field.Ones(top-1))
	}
}

func TestPlacesOfAllWords(t *testing.T) {
	list := words()
	for bit := range 64 {
		list = append(list, power(bit), top-power(bit), power(bit)-1)
	}
	for _, w := range list {
		var want []int
		for bit := range 64 {
			if has(w, bit) {
				want = append(want, bit)
			}
		}
		if got := slices.Collect(field.Places(w)); !slices.Equal(got, want) {
			t.Errorf("Places(%x): %v, not %v", w, got, want)
		}
		if got := field.Ones(w); got != len(want) {
			t.Errorf("Ones(%x): %d, not %d", w, got, len(want))
		}
	}
}

// some are the first positions that seq yields: at most n, for which the
// iteration is stopped early. A call of yield after that is told.
func some(t *testing.T, seq iter.Seq[int], n int) []int {
	var out []int
	stopped := false
	seq(func(bit int) bool {
		if stopped {
			t.Errorf("a position, %d, after the stop", bit)
			return false
		}
		out = append(out, bit)
		stopped = len(out) >= n
		return !stopped
	})
	return out
}

func TestPlacesStoppedEarly(t *testing.T) {
	for _, w := range words() {
		all := slices.Collect(field.Places(w))
		for n := 1; n <= len(all); n++ {
			seq := field.Places(w)
			if got := some(t, seq, n); !slices.Equal(got, all[:n]) {
				t.Errorf("Places(%x) to %d: %v", w, n, got)
			}
			// A sequence is not used up: it begins anew.
			if got := slices.Collect(seq); !slices.Equal(got, all) {
				t.Errorf("Places(%x) after a stop: %v", w, got)
			}
		}
	}
	var seen []int
	for bit := range field.Places(top) {
		if bit == 3 {
			break
		}
		seen = append(seen, bit)
	}
	if !slices.Equal(seen, []int{0, 1, 2}) {
		t.Errorf("a loop with a break: %v", seen)
	}
}

func TestPlacesWithinThemselves(t *testing.T) {
	seq := field.Places(0x15)
	var seen []int
	for a := range seq {
		for b := range seq {
			seen = append(seen, a*10+b)
		}
	}
	if !slices.Equal(seen, []int{0, 2, 4, 20, 22, 24, 40, 42, 44}) {
		t.Errorf("one sequence in two loops: %v", seen)
	}
}

// P2.4

func TestGetReturnsWhatPutStored(t *testing.T) {
	for _, f := range rightFields() {
		for _, w := range words() {
			for n, fits := range numbersAround(f) {
				got, e := field.Put(w, f, n)
				if !fits {
					continue
				}
				if e != api.OK || field.Get(got, f) != n {
					t.Fatalf("Get of Put(%x, %v, %x): %x, %d", w, f, n, field.Get(got, f), e)
				}
				// All bits but those of f are as before, so storing the old number gives the old word.
				if (got^w)&^field.Mask(f) != 0 {
					t.Fatalf("Put(%x, %v, %x): %x changes more", w, f, n, got)
				}
				if back, e := field.Put(got, f, field.Get(w, f)); back != w || e != api.OK {
					t.Fatalf("Put(%x, %v) of the old number: %x, %d", got, f, back, e)
				}
			}
		}
	}
}

func TestPutChangesNoOtherField(t *testing.T) {
	for _, f := range rightFields() {
		below, above := field.Field{At: 0, Size: f.At}, field.Field{At: f.At + f.Size, Size: 64 - f.At - f.Size}
		for _, w := range []uint64{0, 0x123456789abcdef0, top} {
			got, e := field.Put(w, f, power(f.Size-1))
			if e != api.OK || field.Get(got, below) != field.Get(w, below) || field.Get(got, above) != field.Get(w, above) {
				t.Errorf("Put(%x, %v): %x, %d", w, f, got, e)
			}
		}
	}
}

// P2 (rule 4); P1 is that of all the invalid fields above

func TestArgumentsAreNotChanged(t *testing.T) {
	allFields := []field.Field{{At: 8, Size: 8}, {At: 0, Size: 4}, {At: 7, Size: 7}, {At: -5, Size: -5}}
	allNumbers := []uint64{3, 9, 77, top}
	fieldsBefore, numbersBefore := slices.Clone(allFields), slices.Clone(allNumbers)
	for n := range 5 {
		for m := range 5 {
			// Slices with room behind them, of which the room is not to be changed either.
			apart := field.Apart(allFields[:n]...)
			w, e := field.Pack(allFields[:n], allNumbers[:m]...)
			if again, f := field.Pack(allFields[:n], allNumbers[:m]...); again != w || f != e || field.Apart(allFields[:n]...) != apart {
				t.Errorf("%d fields and %d numbers: another answer", n, m)
			}
		}
	}
	if !slices.Equal(allFields, fieldsBefore) || !slices.Equal(allNumbers, numbersBefore) {
		t.Errorf("changed: %v, %v", allFields, allNumbers)
	}
}

func TestFieldsAreComparable(t *testing.T) {
	// Rule 6: the fields of a Field are numbers, and no more than those two count.
	if (field.Field{At: 4, Size: 3}) != (field.Field{At: 4, Size: 3}) || (field.Field{At: 4, Size: 3}) == (field.Field{At: 3, Size: 4}) {
		t.Errorf("fields compared")
	}
}
