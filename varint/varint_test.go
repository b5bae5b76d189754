package varint_test

import (
	"bytes"
	"encoding/binary"
	"math"
	"math/big"
	"slices"
	"testing"

	"haymow/api"
	"haymow/varint"
)

const top = math.MaxUint64

// encodings are words with their encodings, written out: for each length the
// least and the greatest word that has it, and others.
func encodings() map[uint64]string {
	return map[uint64]string{
		0:                  "\x00",
		1:                  "\x01",
		5:                  "\x05",
		127:                "\x7f",
		128:                "\x80\x01",
		129:                "\x81\x01",
		255:                "\xff\x01",
		256:                "\x80\x02",
		300:                "\xac\x02", // the chapter's example
		1<<14 - 1:          "\xff\x7f",
		1 << 14:            "\x80\x80\x01",
		1<<21 - 1:          "\xff\xff\x7f",
		1 << 21:            "\x80\x80\x80\x01",
		0x01020304:         "\x84\x86\x88\x08",
		1<<28 - 1:          "\xff\xff\xff\x7f",
		1 << 28:            "\x80\x80\x80\x80\x01",
		1<<32 - 1:          "\xff\xff\xff\xff\x0f",
		1 << 32:            "\x80\x80\x80\x80\x10",
		1<<35 - 1:          "\xff\xff\xff\xff\x7f",
		1 << 35:            "\x80\x80\x80\x80\x80\x01",
		1<<42 - 1:          "\xff\xff\xff\xff\xff\x7f",
		1 << 42:            "\x80\x80\x80\x80\x80\x80\x01",
		1<<49 - 1:          "\xff\xff\xff\xff\xff\xff\x7f",
		1 << 49:            "\x80\x80\x80\x80\x80\x80\x80\x01",
		1<<56 - 1:          "\xff\xff\xff\xff\xff\xff\xff\x7f",
		1 << 56:            "\x80\x80\x80\x80\x80\x80\x80\x80\x01",
		1<<63 - 1:          "\xff\xff\xff\xff\xff\xff\xff\xff\x7f",
		1 << 63:            "\x80\x80\x80\x80\x80\x80\x80\x80\x80\x01",
		1<<63 + 1:          "\x81\x80\x80\x80\x80\x80\x80\x80\x80\x01",
		0x8000000000000100: "\x80\x82\x80\x80\x80\x80\x80\x80\x80\x01",
		top - 1:            "\xfe\xff\xff\xff\xff\xff\xff\xff\xff\x01",
		top:                "\xff\xff\xff\xff\xff\xff\xff\xff\xff\x01",
	}
}

// words are small ones, those next to each power of 2, and those that have any
// one group with all others empty or full.
func words() []uint64 {
	var out []uint64
	for w := range uint64(1 << 15) {
		out = append(out, w, ^w)
	}
	for bit := range 64 {
		p := uint64(1) << bit
		out = append(out, p-1, p, p+1, -p, p|1<<63, p^0x0123456789abcdef)
	}
	for at := 0; at < 64; at += 7 {
		for group := range uint64(128) {
			out = append(out, group<<at, ^(group << at), group<<at|1<<63)
		}
	}
	return out
}

// tails are what may follow an encoding: each would be taken for a part of it,
// or for an error, by a reader that goes too far.
func tails() []string {
	return []string{"", "\x00", "\x01", "\x02", "\x7f", "\x80", "\x80\x00", "\xff", "\xff\xff\xff\xff\xff\xff\xff\xff\xff\xff\xff\xff"}
}

// faults are bytes of each error, written out.
func faults() map[string]api.Errno {
	const nine = "\x80\x80\x80\x80\x80\x80\x80\x80\x80"
	const full = "\xff\xff\xff\xff\xff\xff\xff\xff\xff"
	return map[string]api.Errno{
		// They end within an encoding: at once, and at each length.
		"":                             api.ErrShort,
		"\x80":                         api.ErrShort,
		"\xff":                         api.ErrShort,
		"\xac":                         api.ErrShort,
		"\x80\x80":                     api.ErrShort,
		"\xff\xff":                     api.ErrShort,
		"\x80\x80\x80":                 api.ErrShort,
		"\x80\x80\x80\x80":             api.ErrShort,
		"\xff\xff\xff\xff\xff":         api.ErrShort,
		"\x80\x80\x80\x80\x80\x80":     api.ErrShort,
		"\xff\xff\xff\xff\xff\xff\xff": api.ErrShort,
		nine[:8]:                       api.ErrShort,
		nine:                           api.ErrShort,
		full:                           api.ErrShort,
		// A tenth byte that another one would have to follow, with a group that
		// may be: there is no eleventh byte.
		nine + "\x80": api.ErrShort,
		nine + "\x81": api.ErrShort,
		full + "\x80": api.ErrShort,
		full + "\x81": api.ErrShort,
		// A last group of 0, at each length.
		"\x80\x00":           api.ErrForm,
		"\x81\x00":           api.ErrForm,
		"\xff\x00":           api.ErrForm,
		"\xac\x80\x00":       api.ErrForm,
		"\xac\x82\x00":       api.ErrForm,
		"\x80\x80\x80\x00":   api.ErrForm,
		nine[:4] + "\x00":    api.ErrForm,
		full[:5] + "\x00":    api.ErrForm,
		nine[:6] + "\x00":    api.ErrForm,
		full[:7] + "\x00":    api.ErrForm,
		nine[:8] + "\x00":    api.ErrForm,
		nine + "\x00":        api.ErrForm,
		full + "\x00":        api.ErrForm,
		"\x80\x00\x80":       api.ErrForm,
		"\x80\x00\x05":       api.ErrForm,
		nine + "\x00" + nine: api.ErrForm,
		// A tenth byte with a group that leaves the word, be it the last byte or not.
		nine + "\x02":        api.ErrLong,
		full + "\x02":        api.ErrLong,
		nine + "\x03":        api.ErrLong,
		nine + "\x7f":        api.ErrLong,
		full + "\x7f":        api.ErrLong,
		nine + "\x40":        api.ErrLong,
		nine + "\x82":        api.ErrLong,
		nine + "\xff":        api.ErrLong,
		full + "\xff":        api.ErrLong,
		nine + "\xc0":        api.ErrLong,
		nine + "\x02\x01":    api.ErrLong,
		nine + "\x82\x00":    api.ErrLong,
		nine + "\xff" + full: api.ErrLong,
		// An eleventh byte, whatever it is.
		nine + "\x80\x00":    api.ErrLong,
		nine + "\x80\x01":    api.ErrLong,
		nine + "\x81\x00":    api.ErrLong,
		nine + "\x81\x01":    api.ErrLong,
		nine + "\x81\x7f":    api.ErrLong,
		nine + "\x80\x80":    api.ErrLong,
		full + "\x81\xff":    api.ErrLong,
		full + "\x80" + full: api.ErrLong,
		nine + nine:          api.ErrLong,
		nine + nine + "\x00": api.ErrLong,
		full + full + "\x01": api.ErrLong,
	}
}

// read is what Get owes for b, in one look at all that counts of it: the place
// of the byte that ends the encoding decides, and the integer, of any size,
// whose groups lie ahead of that.
func read(b []byte) (uint64, int, api.Errno) {
	end := slices.IndexFunc(b, func(c byte) bool { return c < 128 })
	if end < 0 {
		end = len(b)
	}
	if end > 9 && len(b) > 10 || end >= 9 && len(b) > 9 && b[9]%128 > 1 {
		return 0, 0, api.ErrLong
	}
	if end == len(b) {
		return 0, 0, api.ErrShort
	}
	if b[end] == 0 && end != 0 {
		return 0, 0, api.ErrForm
	}
	n := new(big.Int)
	for i := end; i >= 0; i-- {
		n.Mul(n, big.NewInt(128))
		n.Add(n, big.NewInt(int64(b[i]%128)))
	}
	return n.Uint64(), end + 1, api.OK
}

// splitBytes is what Split owes for b.
func splitBytes(b []byte) ([]uint64, api.Errno) {
	var out []uint64
	for at := 0; at < len(b); {
		w, n, e := read(b[at:])
		if e != api.OK {
			return nil, e
		}
		out = append(out, w)
		at += n
	}
	return out, api.OK
}

// checkBytes holds Get and Split of b against what they owe.
func checkBytes(t *testing.T, b []byte) {
	t.Helper()
	w, n, e := varint.Get(b)
	if wantW, wantN, wantE := read(b); w != wantW || n != wantN || e != wantE {
		t.Errorf("Get(%x): %x, %d, %d, not %x, %d, %d", b, w, n, e, wantW, wantN, wantE)
	}
	list, f := varint.Split(b)
	if want, wantF := splitBytes(b); !slices.Equal(list, want) || f != wantF {
		t.Errorf("Split(%x): %x, %d, not %x, %d", b, list, f, want, wantF)
	}
	if f == api.OK && !bytes.Equal(varint.All(list...), b) {
		t.Errorf("All(Split(%x)): %x", b, varint.All(list...))
	}
}

// P5.1

func TestPut(t *testing.T) {
	for w, want := range encodings() {
		if got := varint.Put(nil, w); string(got) != want {
			t.Errorf("Put(nil, %x): %x, not %x", w, got, want)
		}
		for _, ahead := range tails() {
			if got := varint.Put([]byte(ahead), w); string(got) != ahead+want {
				t.Errorf("Put(%x, %x): %x, not %x", ahead, w, got, ahead+want)
			}
		}
	}
	for _, w := range words() {
		want := binary.AppendUvarint(nil, w)
		if got := varint.Put(nil, w); !bytes.Equal(got, want) {
			t.Errorf("Put(nil, %x): %x, not %x", w, got, want)
		}
		want = binary.AppendUvarint([]byte{0, 0x80}, w)
		if got := varint.Put([]byte{0, 0x80}, w); !bytes.Equal(got, want) {
			t.Errorf("Put(0080, %x): %x, not %x", w, got, want)
		}
	}
}

func TestSize(t *testing.T) {
	for w, text := range encodings() {
		if got := varint.Size(w); got != len(text) {
			t.Errorf("Size(%x): %d, not %d", w, got, len(text))
		}
	}
	for _, w := range words() {
		want := 1
		for left := w / 128; left > 0; left /= 128 {
			want++
		}
		if got := varint.Size(w); got != want || len(varint.Put(nil, w)) != want {
			t.Errorf("Size(%x): %d, not %d", w, got, want)
		}
	}
}

func TestGet(t *testing.T) {
	for want, text := range encodings() {
		for _, behind := range tails() {
			w, n, e := varint.Get([]byte(text + behind))
			if w != want || n != len(text) || e != api.OK {
				t.Errorf("Get(%x): %x, %d, %d, not %x", text+behind, w, n, e, want)
			}
		}
	}
}

func TestGetOfFaults(t *testing.T) {
	for text, want := range faults() {
		w, n, e := varint.Get([]byte(text))
		if w != 0 || n != 0 || e != want {
			t.Errorf("Get(%x): %x, %d, %d, not error %d", text, w, n, e, want)
		}
	}
	if w, n, e := varint.Get(nil); w != 0 || n != 0 || e != api.ErrShort {
		t.Errorf("Get(nil): %x, %d, %d", w, n, e)
	}
}

func TestGetOfEncodingsCutShort(t *testing.T) {
	for _, text := range encodings() {
		for n := range len(text) {
			if w, size, e := varint.Get([]byte(text[:n])); w != 0 || size != 0 || e != api.ErrShort {
				t.Errorf("Get(%x): %x, %d, %d", text[:n], w, size, e)
			}
		}
	}
}

func TestAllShortBytes(t *testing.T) {
	for a := range 256 {
		checkBytes(t, []byte{byte(a)})
		for b := range 256 {
			checkBytes(t, []byte{byte(a), byte(b)})
			for _, c := range []byte{0, 1, 0x7f, 0x80, 0xff} {
				checkBytes(t, []byte{byte(a), byte(b), c})
			}
		}
	}
}

func TestBytesAboutTheTenth(t *testing.T) {
	telling := []byte{0, 1, 2, 0x3f, 0x7f, 0x80, 0x81, 0x82, 0xff}
	for _, fill := range []byte{0x80, 0x81, 0xaa, 0xff} {
		for ahead := range 14 {
			b := bytes.Repeat([]byte{fill}, ahead)
			checkBytes(t, b)
			for _, x := range telling {
				one := append(slices.Clone(b), x)
				checkBytes(t, one)
				for _, y := range telling {
					two := append(slices.Clone(one), y)
					checkBytes(t, two)
					for _, z := range telling {
						checkBytes(t, append(slices.Clone(two), z))
					}
				}
			}
		}
	}
	// Each byte in the tenth place, and in the eleventh behind one that is not
	// the last.
	for c := range 256 {
		nine := bytes.Repeat([]byte{0x80}, 9)
		checkBytes(t, append(slices.Clone(nine), byte(c)))
		checkBytes(t, append(slices.Clone(nine), byte(c), 0x01))
		checkBytes(t, append(slices.Clone(nine), 0x80, byte(c)))
		checkBytes(t, append(slices.Clone(nine), 0x81, byte(c)))
	}
}

// P5.2

func TestZigAndZag(t *testing.T) {
	for n, w := range map[int]uint64{
		0: 0, -1: 1, 1: 2, -2: 3, 2: 4, -3: 5, 3: 6, 63: 126, -64: 127, 64: 128, -65: 129,
		math.MaxInt32: 1<<32 - 2, math.MinInt32: 1<<32 - 1, math.MaxInt32 + 1: 1 << 32, math.MinInt32 - 1: 1<<32 + 1,
		1<<62 - 1: 1<<63 - 2, -1 << 62: 1<<63 - 1, 1 << 62: 1 << 63, -1<<62 - 1: 1<<63 + 1,
		math.MaxInt: top - 1, math.MinInt: top, math.MaxInt - 1: top - 3, math.MinInt + 1: top - 2,
	} {
		if got := varint.Zig(n); got != w {
			t.Errorf("Zig(%d): %x, not %x", n, got, w)
		}
		if got := varint.Zag(w); got != n {
			t.Errorf("Zag(%x): %d, not %d", w, got, n)
		}
	}
}

func TestZigAndZagOfAllWords(t *testing.T) {
	for _, w := range words() {
		n := int(w)
		want := new(big.Int).Mul(big.NewInt(2), big.NewInt(int64(n)))
		if n < 0 {
			want.Neg(want).Sub(want, big.NewInt(1))
		}
		if got := varint.Zig(n); got != want.Uint64() || varint.Zag(got) != n {
			t.Errorf("Zig(%d): %x, not %x; back: %d", n, got, want, varint.Zag(got))
		}
		if got := varint.Zag(w); varint.Zig(got) != w {
			t.Errorf("Zig(Zag(%x)): of %d, %x", w, got, varint.Zig(got))
		}
	}
}

// P5.3

// lists are lists of words with their encodings, written out.
func lists() []struct {
	words []uint64
	text  string
} {
	return []struct {
		words []uint64
		text  string
	}{
		{nil, ""},
		{[]uint64{0}, "\x00"},
		{[]uint64{0, 0, 0}, "\x00\x00\x00"},
		{[]uint64{5}, "\x05"},
		{[]uint64{1, 2, 3}, "\x01\x02\x03"},
		{[]uint64{3, 2, 1}, "\x03\x02\x01"},
		{[]uint64{300}, "\xac\x02"},
		{[]uint64{0, 300, 0}, "\x00\xac\x02\x00"},
		{[]uint64{127, 128, 127}, "\x7f\x80\x01\x7f"},
		{[]uint64{300, 1 << 14, 7}, "\xac\x02\x80\x80\x01\x07"},
		{[]uint64{0, 127, 128, top}, "\x00\x7f\x80\x01\xff\xff\xff\xff\xff\xff\xff\xff\xff\x01"},
		{[]uint64{top, 0, 1 << 63}, "\xff\xff\xff\xff\xff\xff\xff\xff\xff\x01\x00\x80\x80\x80\x80\x80\x80\x80\x80\x80\x01"},
	}
}

func TestAll(t *testing.T) {
	for _, c := range lists() {
		if got := varint.All(c.words...); string(got) != c.text {
			t.Errorf("All(%x): %x, not %x", c.words, got, c.text)
		}
	}
	if got := varint.All(); len(got) != 0 {
		t.Errorf("All(): %x", got)
	}
	if got := varint.All([]uint64{}...); len(got) != 0 {
		t.Errorf("All of an empty list: %x", got)
	}
	if got := varint.All(1, 300); string(got) != "\x01\xac\x02" {
		t.Errorf("All(1, 300): %x", got)
	}
}

func TestSplit(t *testing.T) {
	for _, c := range lists() {
		if got, e := varint.Split([]byte(c.text)); !slices.Equal(got, c.words) || e != api.OK {
			t.Errorf("Split(%x): %x, %d, not %x", c.text, got, e, c.words)
		}
	}
	if got, e := varint.Split(nil); len(got) != 0 || e != api.OK {
		t.Errorf("Split(nil): %x, %d", got, e)
	}
}

func TestSplitOfFaults(t *testing.T) {
	for text, want := range faults() {
		if text == "" { // Split has no word to read there
			continue
		}
		// As the first one, behind others, and ahead of each other one.
		for _, ahead := range []string{"", "\x00", "\xac\x02", "\xff\xff\xff\xff\xff\xff\xff\xff\xff\x01", "\x00\x00\x07"} {
			if got, e := varint.Split([]byte(ahead + text)); len(got) != 0 || e != want {
				t.Errorf("Split(%x): %x, %d, not error %d", ahead+text, got, e, want)
			}
		}
		// A short one is so only if nothing follows.
		if want == api.ErrShort {
			continue
		}
		for other := range faults() {
			if got, e := varint.Split([]byte("\x05" + text + other)); len(got) != 0 || e != want {
				t.Errorf("Split(05%x%x): %x, %d, not error %d", text, other, got, e, want)
			}
		}
	}
}

// P5.4

func TestGetDecodesWhatPutEncoded(t *testing.T) {
	for _, w := range words() {
		b := varint.Put(nil, w)
		size := len(b)
		for _, behind := range tails() {
			whole := append(b[:size:size], behind...)
			if got, n, e := varint.Get(whole); got != w || n != size || e != api.OK {
				t.Errorf("Get(%x): %x, %d, %d, not %x", whole, got, n, e, w)
			}
		}
	}
}

func TestSplitInvertsAll(t *testing.T) {
	all := words()
	for n := range 200 {
		for _, list := range [][]uint64{all[:n], all[len(all)-n:], all[n*9 : n*11]} {
			if got, e := varint.Split(varint.All(list...)); !slices.Equal(got, list) || e != api.OK {
				t.Errorf("Split(All(%x)): %x, %d", list, got, e)
			}
		}
	}
	var one []byte
	for _, w := range all[:500] {
		one = varint.Put(one, w)
	}
	if !bytes.Equal(varint.All(all[:500]...), one) {
		t.Errorf("All differs from Put, one word behind the other")
	}
}

// A call whose time grows with the square of its list would not end here.
func TestLongLists(t *testing.T) {
	list := slices.Repeat(words(), 10)
	b := varint.All(list...)
	if got, e := varint.Split(b); !slices.Equal(got, list) || e != api.OK {
		t.Errorf("Split of %d words: %d of them, %d", len(list), len(got), e)
	}
	b = append(b, 0x80)
	if got, e := varint.Split(b); len(got) != 0 || e != api.ErrShort {
		t.Errorf("Split of %d words and a part: %d of them, %d", len(list), len(got), e)
	}
	if w, n, e := varint.Get(bytes.Repeat([]byte{0x80}, 1<<20)); w != 0 || n != 0 || e != api.ErrLong {
		t.Errorf("Get of an encoding without end: %x, %d, %d", w, n, e)
	}
}

// P2 (rules 3 and 4); P1 is that of all the bytes and words above

func TestArgumentsAreNotChanged(t *testing.T) {
	whole := []byte{0x05, 0xac, 0x02, 0x80, 0x00, 0x80, 0x80, 0x80, 0x80, 0x80, 0x80, 0x80, 0x80, 0x80, 0x80, 0x80}
	before := slices.Clone(whole)
	for n := range len(whole) + 1 {
		// A slice with room behind it, of which the room is not to be changed either.
		for _, w := range []uint64{0, 300, top} {
			if got := varint.Put(whole[:n], w); !bytes.HasPrefix(got, before[:n]) || len(got) != n+varint.Size(w) {
				t.Errorf("Put(%x, %x): %x", before[:n], w, got)
			}
		}
		varint.Get(whole[n:])
		varint.Split(whole[:n])
	}
	if !bytes.Equal(whole, before) {
		t.Errorf("changed: %x", whole)
	}
	list := []uint64{7, 300, top, 0, 1 << 63}
	same := slices.Clone(list)
	for n := range len(list) + 1 {
		varint.All(list[:n]...)
	}
	if !slices.Equal(list, same) {
		t.Errorf("changed: %x", list)
	}
}

func TestArgumentsAreNotKept(t *testing.T) {
	b := []byte{0x05, 0xac, 0x02}
	put := varint.Put(b, 300)
	split, e := varint.Split(b)
	list := []uint64{5, 300}
	all := varint.All(list...)
	clear(b)
	clear(list)
	if string(put) != "\x05\xac\x02\xac\x02" || !slices.Equal(split, []uint64{5, 300}) || e != api.OK || string(all) != "\x05\xac\x02" {
		t.Errorf("after their arguments changed: %x, %x, %d, %x", put, split, e, all)
	}
}

func TestResultsAreNew(t *testing.T) {
	// Two results that grow from one slice, which has room for both.
	b := make([]byte, 1, 64)
	first, second := varint.Put(b, 300), varint.Put(b, 5)
	third := varint.Put(first, 1)
	if string(first) != "\x00\xac\x02" || string(second) != "\x00\x05" || string(third) != "\x00\xac\x02\x01" {
		t.Errorf("Put twice: %x, %x, %x", first, second, third)
	}
	clear(third[:cap(third)])
	varint.Put(first, top)
	if string(first) != "\x00\xac\x02" {
		t.Errorf("Put after a change of its result: %x", first)
	}
	one, two := varint.All(7, 300), varint.All(7, 300)
	clear(one[:cap(one)])
	if string(two) != "\x07\xac\x02" || string(varint.All(7, 300)) != "\x07\xac\x02" {
		t.Errorf("All after a change of its result: %x", two)
	}
	x, _ := varint.Split(two)
	y, _ := varint.Split(two)
	clear(x[:cap(x)])
	z, e := varint.Split(two)
	if !slices.Equal(y, []uint64{7, 300}) || !slices.Equal(z, y) || e != api.OK {
		t.Errorf("Split after a change of its result: %x, %x, %d", y, z, e)
	}
}

func TestFailedCallsHaveNoEffect(t *testing.T) {
	for text := range faults() {
		varint.Get([]byte(text))
		varint.Split([]byte("\x05" + text))
	}
	w, n, e := varint.Get([]byte("\xac\x02"))
	list, f := varint.Split([]byte("\x05\xac\x02"))
	if w != 300 || n != 2 || e != api.OK || !slices.Equal(list, []uint64{5, 300}) || f != api.OK {
		t.Errorf("after failed calls: %x, %d, %d, %x, %d", w, n, e, list, f)
	}
}
