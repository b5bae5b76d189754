package ref_test

import (
	"math"
	"slices"
	"testing"

	"haymow/api"
	"haymow/ref"
)

// The greatest references, and how many there are of each kind, written out.
const (
	lastSmall = 8388607 // to the object at index 4194303
	lastLarge = 2097152 // to the object with number 1048576
	smalls    = 4194304
	larges    = 1048576
)

// farNumbers are ints that no object has, among them those that are right again
// when they are doubled or cut to fewer bits.
func farNumbers() []int {
	out := []int{math.MinInt, math.MinInt + 1, math.MinInt + 5, math.MinInt32, -1 << 33, -1<<32 + 5, -1 << 22, -1 << 20, -6, -5, -2, -1,
		math.MaxInt - 5, math.MaxInt - 1, math.MaxInt}
	for bit := 23; bit < 63; bit++ {
		out = append(out, 1<<bit-1, 1<<bit, 1<<bit+1, 1<<bit+5)
	}
	return out
}

// farWords are words that are no references: each reference of a short list
// with a further bit that is too high for it, words that other layers know as
// headers, and the greatest ones.
func farWords() []uint64 {
	out := []uint64{0x4000000000002001, 0x8000000000000005, 1<<63 - 1, 1<<64 - 5, 1<<64 - 2, 1<<64 - 1}
	for _, w := range []uint64{0, 1, 2, 3, 10, 11, lastLarge - 2, lastLarge, lastLarge + 1, lastSmall - 2, lastSmall} {
		for bit := 23; bit < 64; bit++ {
			out = append(out, w|1<<bit)
		}
	}
	return out
}

// mean is what a word refers to, and the object's index or number.
func mean(w uint64) (ref.Kind, int) {
	switch {
	case w == 0:
		return ref.Nothing, 0
	case w&1 == 1 && w <= lastSmall:
		return ref.Small, int(w-1) >> 1
	case w&1 == 0 && w <= lastLarge:
		return ref.Large, int(w) >> 1
	}
	return ref.Bad, 0
}

// checkWord holds everything that is told of a word against the promise.
func checkWord(t *testing.T, w uint64) {
	kind, at := mean(w)
	r := ref.Ref(w)
	if gotKind, gotAt := r.Kind(), r.At(); gotKind != kind || gotAt != at {
		t.Fatalf("%x: kind %d at %d, not %d at %d", w, gotKind, gotAt, kind, at)
	}
	want, wantError := r, api.OK
	if kind == ref.Bad {
		want, wantError = ref.Nil, api.ErrForm
	}
	if got, e := ref.Of(w); got != want || e != wantError {
		t.Fatalf("Of(%x): %x, %d", w, got, e)
	}
}

// Types

func TestNumbersOfTheTypes(t *testing.T) {
	// A constant on both sides: Nil has to be one, too.
	const nilWord = uint64(ref.Nil)
	if nilWord != 0 || ref.Nothing != 0 || ref.Small != 1 || ref.Large != 2 || ref.Bad != 3 {
		t.Errorf("%d, %d, %d, %d, %d", nilWord, ref.Nothing, ref.Small, ref.Large, ref.Bad)
	}
	var none ref.Ref
	if none != ref.Nil {
		t.Errorf("the zero value is %d", none)
	}
}

// P11.1

func TestToSmall(t *testing.T) {
	for _, c := range []struct {
		at   int
		want ref.Ref
		e    api.Errno
	}{
		{5, 11, api.OK}, // the chapter's example
		{0, 1, api.OK},
		{1, 3, api.OK},
		{2, 5, api.OK},
		{1048575, 2097151, api.OK},
		{1048576, 2097153, api.OK},
		{1048577, 2097155, api.OK}, // no bound of the large objects holds here
		{2097152, 4194305, api.OK},
		{4194302, 8388605, api.OK},
		{4194303, 8388607, api.OK},
		{4194304, ref.Nil, api.ErrRange},
		{4194305, ref.Nil, api.ErrRange},
		{8388607, ref.Nil, api.ErrRange},
		{-1, ref.Nil, api.ErrRange},
	} {
		if got, e := ref.ToSmall(c.at); got != c.want || e != c.e {
			t.Errorf("ToSmall(%d): %d, %d", c.at, got, e)
		}
	}
}

func TestToLarge(t *testing.T) {
	for _, c := range []struct {
		id   int
		want ref.Ref
		e    api.Errno
	}{
		{5, 10, api.OK}, // the chapter's example
		{1, 2, api.OK},
		{2, 4, api.OK},
		{3, 6, api.OK},
		{1048575, 2097150, api.OK},
		{1048576, 2097152, api.OK},
		{1048577, ref.Nil, api.ErrRange},
		{1048578, ref.Nil, api.ErrRange},
		{2097152, ref.Nil, api.ErrRange},
		{4194303, ref.Nil, api.ErrRange}, // an index that a small object may have
		{0, ref.Nil, api.ErrRange},
		{-1, ref.Nil, api.ErrRange},
	} {
		if got, e := ref.ToLarge(c.id); got != c.want || e != c.e {
			t.Errorf("ToLarge(%d): %d, %d", c.id, got, e)
		}
	}
}

func TestNumbersThatNoObjectHas(t *testing.T) {
	for _, n := range farNumbers() {
		if r, e := ref.ToSmall(n); r != ref.Nil || e != api.ErrRange {
			t.Errorf("ToSmall(%d): %d, %d", n, r, e)
		}
		if r, e := ref.ToLarge(n); r != ref.Nil || e != api.ErrRange {
			t.Errorf("ToLarge(%d): %d, %d", n, r, e)
		}
	}
	for n := range 10000 {
		if r, e := ref.ToSmall(-1 - n); r != ref.Nil || e != api.ErrRange {
			t.Fatalf("ToSmall(%d): %d, %d", -1-n, r, e)
		}
		if r, e := ref.ToSmall(smalls + n); r != ref.Nil || e != api.ErrRange {
			t.Fatalf("ToSmall(%d): %d, %d", smalls+n, r, e)
		}
		if r, e := ref.ToLarge(-n); r != ref.Nil || e != api.ErrRange {
			t.Fatalf("ToLarge(%d): %d, %d", -n, r, e)
		}
		if r, e := ref.ToLarge(larges + 1 + n); r != ref.Nil || e != api.ErrRange {
			t.Fatalf("ToLarge(%d): %d, %d", larges+1+n, r, e)
		}
	}
}

// P11.1, P11.2

// checkReference holds the reference that was made for an object against the
// one that is due, and against what is told of it.
func checkReference(t *testing.T, r ref.Ref, e api.Errno, want ref.Ref, kind ref.Kind, at int) {
	if r != want || e != api.OK {
		t.Fatalf("kind %d at %d: %d, %d", kind, at, r, e)
	}
	if r.Kind() != kind || r.At() != at {
		t.Fatalf("%d: kind %d at %d, not %d at %d", r, r.Kind(), r.At(), kind, at)
	}
	if again, e := ref.Of(uint64(r)); again != r || e != api.OK {
		t.Fatalf("Of(%d): %d, %d", r, again, e)
	}
}

func TestEverySmallObject(t *testing.T) {
	want := ref.Ref(1)
	for at := range smalls {
		r, e := ref.ToSmall(at)
		checkReference(t, r, e, want, ref.Small, at)
		want += 2
	}
}

func TestEveryLargeObject(t *testing.T) {
	want := ref.Ref(2)
	for i := range larges {
		r, e := ref.ToLarge(i + 1)
		checkReference(t, r, e, want, ref.Large, i+1)
		want += 2
	}
}

// P11.2

func TestOfWords(t *testing.T) {
	for _, c := range []struct {
		w    uint64
		kind ref.Kind
		at   int
		want ref.Ref
		e    api.Errno
	}{
		{0, ref.Nothing, 0, ref.Nil, api.OK},
		{1, ref.Small, 0, 1, api.OK},
		{2, ref.Large, 1, 2, api.OK},
		{3, ref.Small, 1, 3, api.OK},
		{10, ref.Large, 5, 10, api.OK},
		{11, ref.Small, 5, 11, api.OK},
		// The end of the large objects, beyond which the small ones go on.
		{2097151, ref.Small, 1048575, 2097151, api.OK},
		{2097152, ref.Large, 1048576, 2097152, api.OK},
		{2097153, ref.Small, 1048576, 2097153, api.OK},
		{2097154, ref.Bad, 0, ref.Nil, api.ErrForm},
		{2097155, ref.Small, 1048577, 2097155, api.OK},
		{4194304, ref.Bad, 0, ref.Nil, api.ErrForm},
		// The end of the small objects.
		{8388605, ref.Small, 4194302, 8388605, api.OK},
		{8388606, ref.Bad, 0, ref.Nil, api.ErrForm},
		{8388607, ref.Small, 4194303, 8388607, api.OK},
		{8388608, ref.Bad, 0, ref.Nil, api.ErrForm},
		{8388609, ref.Bad, 0, ref.Nil, api.ErrForm},
		// References with a bit on top, which are right again when they are cut to fewer bits.
		{1<<32 + 10, ref.Bad, 0, ref.Nil, api.ErrForm},
		{1<<32 + 11, ref.Bad, 0, ref.Nil, api.ErrForm},
		{1<<63 + 10, ref.Bad, 0, ref.Nil, api.ErrForm},
		{1<<63 + 11, ref.Bad, 0, ref.Nil, api.ErrForm},
		{1 << 63, ref.Bad, 0, ref.Nil, api.ErrForm},
		// The ends of the words.
		{1<<64 - 2, ref.Bad, 0, ref.Nil, api.ErrForm},
		{1<<64 - 1, ref.Bad, 0, ref.Nil, api.ErrForm},
	} {
		r := ref.Ref(c.w)
		if r.Kind() != c.kind || r.At() != c.at {
			t.Errorf("%d: kind %d at %d", c.w, r.Kind(), r.At())
		}
		if got, e := ref.Of(c.w); got != c.want || e != c.e {
			t.Errorf("Of(%d): %d, %d", c.w, got, e)
		}
	}
}

func TestOfEveryNearWord(t *testing.T) {
	// Twice as far as references reach.
	for w := range uint64(2 * (lastSmall + 1)) {
		checkWord(t, w)
	}
}

func TestOfFarWords(t *testing.T) {
	for _, w := range farWords() {
		if kind, _ := mean(w); kind != ref.Bad {
			t.Fatalf("%x is no far word", w)
		}
		checkWord(t, w)
	}
	// The last ones of all.
	for n := range uint64(10000) {
		checkWord(t, math.MaxUint64-n)
	}
}

// P11.3

func TestDifferentObjectsHaveDifferentReferences(t *testing.T) {
	all := make([]ref.Ref, 0, 1+smalls+larges)
	all = append(all, ref.Nil)
	for at := range smalls {
		r, _ := ref.ToSmall(at)
		all = append(all, r)
	}
	for i := range larges {
		r, _ := ref.ToLarge(i + 1)
		all = append(all, r)
	}
	slices.Sort(all)
	if n := len(slices.Compact(all)); n != 1+smalls+larges {
		t.Errorf("%d references, of which %d differ", 1+smalls+larges, n)
	}
}
