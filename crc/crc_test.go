package crc_test

import (
	"bytes"
	"encoding/binary"
	"math/big"
	"math/bits"
	"slices"
	"testing"

	"haymow/api"
	"haymow/crc"
)

const (
	top = 1<<64 - 1
	// low is the chapter's number: the divisor without its highest term.
	low = 0x42f0e1eba9ea3693
)

// remainder is the checksum in another way: bits are the coefficients of a
// polynomial, and the checksum is what is left of it, times x^64, when it is
// divided by the polynomial of degree 64 whose other coefficients are low. A
// checksum to begin with counts as bits ahead of those of b, less their factor.
func remainder(sum uint64, b []byte) uint64 {
	n := new(big.Int).SetBytes(b)
	n.Lsh(n, 64)
	ahead := new(big.Int).SetUint64(sum)
	n.Xor(n, ahead.Lsh(ahead, uint(len(b))*8))
	divisor := new(big.Int).SetUint64(low)
	divisor.SetBit(divisor, 64, 1)
	for n.BitLen() > 64 {
		n.Xor(n, new(big.Int).Lsh(divisor, uint(n.BitLen()-65)))
	}
	return n.Uint64()
}

// noise is n bytes that follow no short rule, the same ones for the same seed.
func noise(seed uint64, n int) []byte {
	out := make([]byte, n)
	for i := range out {
		seed = seed*6364136223846793005 + 1442695040888963407
		out[i] = byte(seed >> 56)
	}
	return out
}

// sums are checksums to begin with.
func sums() []uint64 {
	out := []uint64{0, 1, 2, 0xff, 0x100, 1<<63 - 1, 1 << 63, top - 1, top, low, low >> 1, 0x123456789abcdef0}
	for bit := range 64 {
		out = append(out, 1<<bit)
	}
	return out
}

// samples are sequences of bytes: of each length up to 40, and of some greater
// ones.
func samples() [][]byte {
	out := [][]byte{nil}
	for n := range 41 {
		for _, c := range []byte{0, 1, 0x80, 0xff} {
			out = append(out, bytes.Repeat([]byte{c}, n))
		}
		out = append(out, noise(uint64(n), n))
	}
	for _, n := range []int{63, 64, 65, 255, 256, 257, 600} {
		out = append(out, noise(uint64(n), n))
	}
	return out
}

// known are bytes with their checksums, written out.
func known() []struct {
	text string
	sum  uint64
} {
	return []struct {
		text string
		sum  uint64
	}{
		{"", 0},
		{"\x00", 0},
		{"\x00\x00\x00\x00\x00\x00\x00\x00\x00", 0},
		{"\x01", 0x42f0e1eba9ea3693}, // the chapter's example
		{"\x00\x01", 0x42f0e1eba9ea3693},
		{"\x02", 0x85e1c3d753d46d26},
		{"\x80", 0xf6fae5c07d3274cd},
		{"\xff", 0x9afce626ce85b507},
		{"\x01\x00", 0xaf052a6b538edf09},
		{"\x80\x00\x00\x00\x00\x00\x00\x00\x00", 0x7f002022faa93626},
		{"\xff\xff\xff\xff\xff\xff\xff\xff", 0xfcacbebd5931a992},
		{"a", 0x548f120162451c62},
		{"haymow", 0x7e94b2e67959f94a},
		{"123456789", 0x6c40df5f0b497347},
		{"The quick brown fox jumps over the lazy dog", 0x41e05242ffa9883b},
	}
}

// P6.1

func TestKnownSums(t *testing.T) {
	for _, c := range known() {
		if got := crc.Sum([]byte(c.text)); got != c.sum {
			t.Errorf("Sum(%x): %x, not %x", c.text, got, c.sum)
		}
		if got := crc.More(0, []byte(c.text)); got != c.sum {
			t.Errorf("More(0, %x): %x, not %x", c.text, got, c.sum)
		}
	}
	for _, c := range []struct {
		sum  uint64
		text string
		want uint64
	}{
		{0x123456789abcdef0, "", 0x123456789abcdef0},
		{1, "\x00", 0x100},
		{1, "\x01", 0x42f0e1eba9ea3793},
		{1 << 63, "\x00", 0xf6fae5c07d3274cd},
		{1 << 63, "\x80", 0},
		{top, "\x00", 0x650319d9317a4a07},
		{top, "\xff", 0xffffffffffffff00},
		{1 << 63, "\x00\x00\x00\x00\x00\x00\x00\x00", 0x02fae1e3f5a97d5b},
		{0x123456789abcdef0, "haymow", 0x4fe7d3d98c79bb2a},
		{0x123456789abcdef0, "\x12\x34\x56\x78\x9a\xbc\xde\xf0", 0},
	} {
		if got := crc.More(c.sum, []byte(c.text)); got != c.want {
			t.Errorf("More(%x, %x): %x, not %x", c.sum, c.text, got, c.want)
		}
	}
}

func TestMoreIsWhatADivisionLeaves(t *testing.T) {
	for _, b := range samples() {
		for _, sum := range sums() {
			if got, want := crc.More(sum, b), remainder(sum, b); got != want {
				t.Fatalf("More(%x, %x): %x, not %x", sum, b, got, want)
			}
		}
		if got, want := crc.Sum(b), remainder(0, b); got != want {
			t.Fatalf("Sum(%x): %x, not %x", b, got, want)
		}
	}
}

func TestAllShortBytes(t *testing.T) {
	for a := range 256 {
		for _, sum := range sums() {
			one := []byte{byte(a)}
			if got, want := crc.More(sum, one), remainder(sum, one); got != want {
				t.Fatalf("More(%x, %x): %x, not %x", sum, one, got, want)
			}
		}
		for b := range 256 {
			two := []byte{byte(a), byte(b)}
			if got, want := crc.Sum(two), remainder(0, two); got != want {
				t.Fatalf("Sum(%x): %x, not %x", two, got, want)
			}
		}
	}
}

func TestMoreOfNothing(t *testing.T) {
	for _, sum := range sums() {
		if got := crc.More(sum, nil); got != sum {
			t.Errorf("More(%x, nil): %x", sum, got)
		}
		if got := crc.More(sum, []byte{}); got != sum {
			t.Errorf("More(%x, no bytes): %x", sum, got)
		}
	}
}

func TestSumOfParts(t *testing.T) {
	if got := crc.Sum(); got != 0 {
		t.Errorf("Sum(): %x", got)
	}
	if got := crc.Sum(nil, nil, []byte{}); got != 0 {
		t.Errorf("Sum of empty parts: %x", got)
	}
	if got := crc.Sum([]byte("hay"), []byte("mow")); got != 0x7e94b2e67959f94a {
		t.Errorf("Sum of two parts: %x", got)
	}
	if got := crc.Sum([]byte("mow"), []byte("hay")); got == 0x7e94b2e67959f94a {
		t.Errorf("Sum of two parts in another order: %x, too", got)
	}
	for _, b := range samples() {
		want := remainder(0, b)
		for at := range len(b) + 1 {
			if got := crc.Sum(b[:at], b[at:]); got != want {
				t.Fatalf("Sum(%x, %x): %x, not %x", b[:at], b[at:], got, want)
			}
			if got := crc.Sum(nil, b[:at], []byte{}, b[at:], nil); got != want {
				t.Fatalf("Sum(%x, %x) with empty parts: %x, not %x", b[:at], b[at:], got, want)
			}
			if got := crc.More(crc.Sum(b[:at]), b[at:]); got != want {
				t.Fatalf("More(Sum(%x), %x): %x, not %x", b[:at], b[at:], got, want)
			}
		}
		if got := crc.Sum(slices.Collect(slices.Chunk(b, 1))...); got != want {
			t.Fatalf("Sum of the single bytes of %x: %x, not %x", b, got, want)
		}
	}
}

// P6.2

func TestSeal(t *testing.T) {
	for text, want := range map[string]string{
		"":                 "\x00\x00\x00\x00\x00\x00\x00\x00", // the chapter's example
		"\x00":             "\x00\x00\x00\x00\x00\x00\x00\x00\x00",
		"\x01":             "\x01\x42\xf0\xe1\xeb\xa9\xea\x36\x93",
		"haymow":           "haymow\x7e\x94\xb2\xe6\x79\x59\xf9\x4a",
		"123456789":        "123456789\x6c\x40\xdf\x5f\x0b\x49\x73\x47",
		"\x80" + eight[1:]: "\x80" + eight[1:] + "\x02\xfa\xe1\xe3\xf5\xa9\x7d\x5b",
	} {
		if got := crc.Seal([]byte(text)); string(got) != want {
			t.Errorf("Seal(%x): %x, not %x", text, got, want)
		}
	}
	for _, b := range samples() {
		want := binary.BigEndian.AppendUint64(slices.Clone(b), remainder(0, b))
		if got := crc.Seal(b); !bytes.Equal(got, want) {
			t.Errorf("Seal(%x): %x, not %x", b, got, want)
		}
	}
}

// eight is the seal of nothing.
const eight = "\x00\x00\x00\x00\x00\x00\x00\x00"

func TestOpen(t *testing.T) {
	for sealed, want := range map[string]string{
		eight:                                    "",
		"\x00" + eight:                           "\x00",
		eight + eight:                            eight,
		"\x01\x42\xf0\xe1\xeb\xa9\xea\x36\x93":   "\x01",
		"haymow\x7e\x94\xb2\xe6\x79\x59\xf9\x4a": "haymow",
		"123456789\x6c\x40\xdf\x5f\x0b\x49\x73\x47": "123456789",
		// Bytes of 0 around a sealed sequence leave one: with those behind it,
		// the last eight are the sum of what then lies before them.
		"\x00haymow\x7e\x94\xb2\xe6\x79\x59\xf9\x4a":     "\x00haymow",
		"haymow\x7e\x94\xb2\xe6\x79\x59\xf9\x4a\x00":     "haymow\x7e",
		"haymow\x7e\x94\xb2\xe6\x79\x59\xf9\x4a" + eight: "haymow\x7e\x94\xb2\xe6\x79\x59\xf9\x4a",
	} {
		if got, e := crc.Open([]byte(sealed)); string(got) != want || e != api.OK {
			t.Errorf("Open(%x): %x, %d, not %x", sealed, got, e, want)
		}
	}
	for _, b := range samples() {
		if got, e := crc.Open(crc.Seal(b)); !bytes.Equal(got, b) || e != api.OK {
			t.Errorf("Open(Seal(%x)): %x, %d", b, got, e)
		}
		// Sealed twice is opened twice.
		once, e := crc.Open(crc.Seal(crc.Seal(b)))
		if twice, f := crc.Open(once); !bytes.Equal(twice, b) || e != api.OK || f != api.OK {
			t.Errorf("Open(Open(Seal(Seal(%x)))): %x, %d, %d", b, twice, e, f)
		}
	}
}

func TestOpenOfFewBytes(t *testing.T) {
	if got, e := crc.Open(nil); len(got) != 0 || e != api.ErrShort {
		t.Errorf("Open(nil): %x, %d", got, e)
	}
	for n := range 8 {
		for _, b := range [][]byte{make([]byte, n), bytes.Repeat([]byte{0xff}, n), noise(1, n), crc.Seal(nil)[:n], crc.Seal([]byte("haymow"))[:n]} {
			if got, e := crc.Open(b); len(got) != 0 || e != api.ErrShort {
				t.Errorf("Open(%x): %x, %d", b, got, e)
			}
		}
	}
}

func TestOpenOfOtherSums(t *testing.T) {
	for _, text := range []string{
		// Of nothing, another sum than 0.
		"\x00\x00\x00\x00\x00\x00\x00\x01",
		"\x01\x00\x00\x00\x00\x00\x00\x00",
		"\xff\xff\xff\xff\xff\xff\xff\xff",
		"\x42\xf0\xe1\xeb\xa9\xea\x36\x93",
		// The sum with its least significant byte first, of other bytes, ahead of
		// the bytes, inverted, 0, and of only a part of what lies before it.
		"\x01\x93\x36\xea\xa9\xeb\xe1\xf0\x42",
		"\x02\x42\xf0\xe1\xeb\xa9\xea\x36\x93",
		"\x42\xf0\xe1\xeb\xa9\xea\x36\x93\x01",
		"\x01\xbd\x0f\x1e\x14\x56\x15\xc9\x6c",
		"\x01\x00\x00\x00\x00\x00\x00\x00\x00",
		"\x01\x00\x42\xf0\xe1\xeb\xa9\xea\x36\x93",
		// One byte too many, and one too few.
		"haymow\x7e\x94\xb2\xe6\x79\x59\xf9\x4a\x01",
		"haymow\x7e\x94\xb2\xe6\x79\x59\xf9",
		"\x01haymow\x7e\x94\xb2\xe6\x79\x59\xf9\x4a",
		"aymow\x7e\x94\xb2\xe6\x79\x59\xf9\x4a",
	} {
		if got, e := crc.Open([]byte(text)); len(got) != 0 || e != api.ErrSum {
			t.Errorf("Open(%x): %x, %d", text, got, e)
		}
	}
	for _, b := range samples() {
		want := api.ErrSum
		if remainder(0, b) == 0 {
			want = api.OK
		}
		if got, e := crc.Open(slices.Concat(b, make([]byte, 8))); e != want || e != api.OK && len(got) != 0 {
			t.Errorf("Open(%x and a sum of 0): %x, %d, not %d", b, got, e, want)
		}
	}
}

// P6.3

// both is the exclusive or of two sequences of equal length.
func both(a, b []byte) []byte {
	out := slices.Clone(a)
	for i := range out {
		out[i] ^= b[i]
	}
	return out
}

func TestSumsCombine(t *testing.T) {
	for n := range 100 {
		list := [][]byte{make([]byte, n), bytes.Repeat([]byte{0xff}, n), bytes.Repeat([]byte{0x80}, n)}
		for seed := range uint64(5) {
			list = append(list, noise(seed*1000+uint64(n), n))
		}
		for _, a := range list {
			for _, b := range list {
				if got, want := crc.Sum(both(a, b)), crc.Sum(a)^crc.Sum(b); got != want {
					t.Fatalf("Sum of %x and %x combined: %x, not %x", a, b, got, want)
				}
			}
		}
	}
}

// P6.4

// change returns b with the bits of a pattern inverted; the pattern's highest
// bit is that of the bit at the place.
func change(b []byte, place int, pattern uint64) []byte {
	out := slices.Clone(b)
	for i := range 64 {
		if at := place + i; pattern<<i>>63 == 1 {
			out[at/8] ^= 0x80 >> (at % 8)
		}
	}
	return out
}

// patterns are changes of up to 64 bits next to each other, none of which is
// without any: each single bit, each two, all but each one, and others.
func patterns() []uint64 {
	out := []uint64{top, low, low<<1 | 1, low>>1 | 1<<63, low | 1<<63, 0xaaaaaaaaaaaaaaaa, 0x5555555555555555}
	for i := range 64 {
		out = append(out, ^(uint64(1) << i), top<<i, top>>i)
		for j := range i + 1 {
			out = append(out, 1<<i|1<<j)
		}
	}
	b := noise(3, 8*200)
	for at := 0; at < len(b); at += 8 {
		out = append(out, binary.BigEndian.Uint64(b[at:])|1)
	}
	return out
}

func TestNearChangesChangeTheSum(t *testing.T) {
	for _, b := range [][]byte{make([]byte, 8), noise(4, 9), bytes.Repeat([]byte{0xff}, 12), noise(5, 25)} {
		sum := crc.Sum(b)
		for place := range len(b)*8 - 63 {
			for _, p := range patterns() {
				if c := change(b, place, p); crc.Sum(c) == sum {
					t.Fatalf("Sum(%x) and Sum(%x): %x", b, c, sum)
				}
			}
		}
	}
}

// Any change of at most 64 bits next to each other is a combination of those of
// one bit, and so is its effect on the sum (P6.3): none is 0 if the effects of
// the 64 bits are independent.
func TestEachSixtyFourBitsAreIndependent(t *testing.T) {
	for _, n := range []int{8, 9, 16, 40} {
		zero := make([]byte, n)
		for place := range n*8 - 63 {
			var basis [64]uint64 // each element has the highest bit of its number
			for i := range 64 {
				left := crc.Sum(change(zero, place, 1<<i))
				for left != 0 {
					high := bits.Len64(left) - 1
					if basis[high] == 0 {
						basis[high] = left
						break
					}
					left ^= basis[high]
				}
				if left == 0 {
					t.Fatalf("of %d bytes, bit %d behind bit %d adds nothing", n, 63-i, place)
				}
			}
		}
	}
}

func TestNearChangesAreRejected(t *testing.T) {
	for _, b := range [][]byte{nil, {1}, []byte("haymow"), noise(6, 17)} {
		sealed := crc.Seal(b)
		// Changes of the bytes, of the sum, and of both.
		for place := range len(sealed)*8 - 63 {
			for _, p := range patterns() {
				c := change(sealed, place, p)
				if got, e := crc.Open(c); len(got) != 0 || e != api.ErrSum {
					t.Fatalf("Open(%x), changed from %x: %x, %d", c, sealed, got, e)
				}
			}
		}
	}
}

// The bound of P6.4 is sharp: the divisor itself, whose ends are 64 positions
// apart, changes nothing.
func TestAFarChangeMayGoUnseen(t *testing.T) {
	b := noise(7, 20)
	sealed := crc.Seal(b)
	for place := range len(b)*8 - 64 {
		far := change(change(b, place, 1<<63), place+1, low)
		if crc.Sum(far) != crc.Sum(b) {
			t.Errorf("Sum(%x): %x, not %x", far, crc.Sum(far), crc.Sum(b))
		}
	}
	for place := range len(sealed)*8 - 64 {
		far := change(change(sealed, place, 1<<63), place+1, low)
		if got, e := crc.Open(far); !bytes.Equal(got, far[:len(b)]) || e != api.OK {
			t.Errorf("Open(%x): %x, %d", far, got, e)
		}
	}
}

// P1

// A call whose time grows with the square of its bytes would not end here.
func TestManyBytes(t *testing.T) {
	b := bytes.Repeat(noise(8, 1024), 4096)
	sealed := crc.Seal(b)
	if got, e := crc.Open(sealed); !bytes.Equal(got, b) || e != api.OK {
		t.Errorf("Open of %d bytes: %d of them, %d", len(sealed), len(got), e)
	}
	parts := slices.Collect(slices.Chunk(b, 3))
	if got, want := crc.Sum(parts...), crc.Sum(b); got != want {
		t.Errorf("Sum of %d parts: %x, not %x", len(parts), got, want)
	}
	sealed[len(b)/2] ^= 1
	if got, e := crc.Open(sealed); len(got) != 0 || e != api.ErrSum {
		t.Errorf("Open of %d bytes with a change: %d of them, %d", len(sealed), len(got), e)
	}
}

// P2 (rules 3 and 4)

func TestArgumentsAreNotChanged(t *testing.T) {
	whole := crc.Seal(noise(9, 20))
	before := slices.Clone(whole)
	for n := range len(whole) + 1 {
		// A slice with room behind it, of which the room is not to be changed either.
		part := whole[:n]
		parts := [][]byte{part, whole[n:], nil}
		crc.More(low, part)
		crc.Sum(parts...)
		if len(parts[0]) != n || len(parts[1]) != len(whole)-n || parts[2] != nil {
			t.Errorf("Sum changed its list of parts: %x", parts)
		}
		if got := crc.Seal(part); !bytes.Equal(got[:n], before[:n]) {
			t.Errorf("Seal(%x): %x", before[:n], got)
		}
		crc.Open(part)
		crc.Open(whole[n:])
		if !bytes.Equal(whole, before) {
			t.Fatalf("changed: %x", whole)
		}
	}
}

func TestResultsAreNew(t *testing.T) {
	for _, n := range []int{0, 1, 6, 7, 8, 9, 100} {
		b := make([]byte, n, n+64)
		copy(b, noise(10, n))
		want := binary.BigEndian.AppendUint64(slices.Clone(b), remainder(0, b))
		sealed, again := crc.Seal(b), crc.Seal(b)
		spoil(b)
		spoil(again)
		if !bytes.Equal(sealed, want) {
			t.Errorf("Seal of %d bytes, after they and another result changed: %x", n, sealed)
		}
		opened, e := crc.Open(sealed)
		other, f := crc.Open(sealed)
		spoil(other)
		if !bytes.Equal(sealed, want) {
			t.Errorf("Open of %d bytes shares them: %x", n, sealed)
		}
		spoil(sealed)
		if !bytes.Equal(opened, want[:n]) || e != api.OK || f != api.OK {
			t.Errorf("Open of %d bytes, after they and another result changed: %x, %d, %d", n, opened, e, f)
		}
	}
}

// spoil inverts all bytes of b, and those in the room behind it.
func spoil(b []byte) {
	b = b[:cap(b)]
	for i := range b {
		b[i] ^= 0xff
	}
}

func TestCallsLeaveNothingBehind(t *testing.T) {
	for range 3 {
		for _, c := range known() {
			if got := crc.Sum([]byte(c.text)); got != c.sum {
				t.Errorf("Sum(%x), once more: %x", c.text, got)
			}
			crc.Open([]byte(c.text)) // fails, but for texts of zeros
			sealed := binary.BigEndian.AppendUint64([]byte(c.text), c.sum)
			if got, e := crc.Open(sealed); string(got) != c.text || e != api.OK {
				t.Errorf("Open(%x), once more: %x, %d", sealed, got, e)
			}
		}
	}
}
