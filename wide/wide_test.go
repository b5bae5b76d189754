package wide_test

import (
	"math/big"
	"slices"
	"strings"
	"testing"

	"haymow/api"
	"haymow/wide"
)

const top = 1<<64 - 1

// edges are the halves from which the numbers of most tests are put together:
// those next to the ends, to the middle, and to the roots of 2^64.
func edges() []uint64 {
	return []uint64{0, 1, 2, 9, 10, 11, 1<<32 - 1, 1 << 32, 1<<32 + 1, 0x123456789abcdef0,
		1<<63 - 1, 1 << 63, 1<<63 + 1, 9999999999999999999, 10000000000000000000, top - 1, top}
}

func numbers() []api.Wide {
	var out []api.Wide
	for _, hi := range edges() {
		for _, lo := range edges() {
			out = append(out, api.Wide{Hi: hi, Lo: lo})
		}
	}
	return out
}

// bigOf is the number as math/big has it: the reference that the package is
// held against.
func bigOf(a api.Wide) *big.Int {
	n := new(big.Int).SetUint64(a.Hi)
	n.Lsh(n, 64)
	return n.Add(n, new(big.Int).SetUint64(a.Lo))
}

func bigWord(n uint64) *big.Int { return new(big.Int).SetUint64(n) }

// wideOf is the number and true, or false if it is none of 128 bits.
func wideOf(n *big.Int) (api.Wide, bool) {
	if n.Sign() < 0 || n.BitLen() > 128 {
		return api.Wide{}, false
	}
	mask := bigWord(top)
	lo := new(big.Int).And(n, mask).Uint64()
	return api.Wide{Hi: new(big.Int).Rsh(n, 64).Uint64(), Lo: lo}, true
}

// P1.1

func TestOfAndMost(t *testing.T) {
	for _, n := range edges() {
		if a := wide.Of(n); a != (api.Wide{Lo: n}) {
			t.Errorf("Of(%d): %v", n, a)
		}
	}
	if a := wide.Most(); a != (api.Wide{Hi: top, Lo: top}) {
		t.Errorf("Most: %v", a)
	}
}

func TestOrder(t *testing.T) {
	for _, c := range []struct {
		a, b api.Wide
		want int
	}{
		{api.Wide{}, api.Wide{}, 0},
		{api.Wide{}, api.Wide{Lo: 1}, -1},
		{api.Wide{Hi: 1}, api.Wide{Lo: top}, 1},
		{api.Wide{Hi: 1, Lo: 5}, api.Wide{Hi: 2, Lo: 3}, -1},
		{api.Wide{Hi: 2, Lo: 3}, api.Wide{Hi: 1, Lo: 5}, 1},
		{api.Wide{Hi: top, Lo: top - 1}, api.Wide{Hi: top, Lo: top}, -1},
		{api.Wide{Hi: top, Lo: top}, api.Wide{Hi: top, Lo: top}, 0},
		{api.Wide{Hi: 1 << 63}, api.Wide{Hi: 1<<63 - 1, Lo: top}, 1},
	} {
		if got := wide.Cmp(c.a, c.b); got != c.want {
			t.Errorf("Cmp(%v, %v): %d, not %d", c.a, c.b, got, c.want)
		}
		if got := wide.Less(c.a, c.b); got != (c.want < 0) {
			t.Errorf("Less(%v, %v): %v", c.a, c.b, got)
		}
	}
}

func TestOrderOfAllPairs(t *testing.T) {
	for _, a := range numbers() {
		for _, b := range numbers() {
			want := bigOf(a).Cmp(bigOf(b))
			if got := wide.Cmp(a, b); got != want {
				t.Fatalf("Cmp(%v, %v): %d, not %d", a, b, got, want)
			}
			if got := wide.Less(a, b); got != (want < 0) {
				t.Fatalf("Less(%v, %v): %v", a, b, got)
			}
		}
	}
}

// P1.2

func TestAdd(t *testing.T) {
	for _, c := range []struct {
		a, b, want api.Wide
		ok         bool
	}{
		{api.Wide{}, api.Wide{}, api.Wide{}, true},
		{api.Wide{Lo: 2}, api.Wide{Lo: 3}, api.Wide{Lo: 5}, true},
		{api.Wide{Lo: top}, api.Wide{Lo: 1}, api.Wide{Hi: 1}, true},
		{api.Wide{Hi: 4, Lo: top}, api.Wide{Hi: 5, Lo: 2}, api.Wide{Hi: 10, Lo: 1}, true},
		{api.Wide{Hi: top, Lo: top - 1}, api.Wide{Lo: 1}, api.Wide{Hi: top, Lo: top}, true},
		{api.Wide{Hi: top, Lo: top}, api.Wide{}, api.Wide{Hi: top, Lo: top}, true},
		// 2^128, just above the greatest number: by a carry and without one.
		{api.Wide{Hi: top, Lo: top}, api.Wide{Lo: 1}, api.Wide{Hi: top, Lo: top}, false},
		{api.Wide{Hi: 1 << 63}, api.Wide{Hi: 1 << 63}, api.Wide{Hi: top, Lo: top}, false},
		{api.Wide{Hi: top, Lo: top}, api.Wide{Hi: top, Lo: top}, api.Wide{Hi: top, Lo: top}, false},
	} {
		got, ok := wide.Add(c.a, c.b)
		if got != c.want || ok != c.ok {
			t.Errorf("Add(%v, %v): %v, %v", c.a, c.b, got, ok)
		}
	}
}

func TestSub(t *testing.T) {
	for _, c := range []struct {
		a, b, want api.Wide
		ok         bool
	}{
		{api.Wide{}, api.Wide{}, api.Wide{}, true},
		{api.Wide{Lo: 5}, api.Wide{Lo: 3}, api.Wide{Lo: 2}, true},
		{api.Wide{Hi: 1}, api.Wide{Lo: 1}, api.Wide{Lo: top}, true},
		{api.Wide{Hi: 10, Lo: 1}, api.Wide{Hi: 4, Lo: 2}, api.Wide{Hi: 5, Lo: top}, true},
		{api.Wide{Hi: top, Lo: top}, api.Wide{Hi: top, Lo: top}, api.Wide{}, true},
		// Below 0: by one, by a borrow, and by all.
		{api.Wide{}, api.Wide{Lo: 1}, api.Wide{}, false},
		{api.Wide{Hi: 3, Lo: 7}, api.Wide{Hi: 3, Lo: 8}, api.Wide{}, false},
		{api.Wide{Hi: 3, Lo: 7}, api.Wide{Hi: 4}, api.Wide{}, false},
		{api.Wide{}, api.Wide{Hi: top, Lo: top}, api.Wide{}, false},
	} {
		got, ok := wide.Sub(c.a, c.b)
		if got != c.want || ok != c.ok {
			t.Errorf("Sub(%v, %v): %v, %v", c.a, c.b, got, ok)
		}
	}
}

func TestSumsAndDifferencesOfAllPairs(t *testing.T) {
	for _, a := range numbers() {
		for _, b := range numbers() {
			want, fits := wideOf(new(big.Int).Add(bigOf(a), bigOf(b)))
			if !fits {
				want = wide.Most()
			}
			if got, ok := wide.Add(a, b); got != want || ok != fits {
				t.Fatalf("Add(%v, %v): %v, %v", a, b, got, ok)
			}
			want, fits = wideOf(new(big.Int).Sub(bigOf(a), bigOf(b)))
			if got, ok := wide.Sub(a, b); got != want || ok != fits {
				t.Fatalf("Sub(%v, %v): %v, %v", a, b, got, ok)
			}
		}
	}
}

func TestMul(t *testing.T) {
	for _, c := range []struct {
		a    api.Wide
		n    uint64
		want api.Wide
		ok   bool
	}{
		{api.Wide{}, top, api.Wide{}, true},
		{api.Wide{Hi: top, Lo: top}, 0, api.Wide{}, true},
		{api.Wide{Hi: top, Lo: top}, 1, api.Wide{Hi: top, Lo: top}, true},
		{api.Wide{Lo: 6}, 7, api.Wide{Lo: 42}, true},
		{api.Wide{Hi: 1}, 1 << 63, api.Wide{Hi: 1 << 63}, true},
		{api.Wide{Lo: top}, top, api.Wide{Hi: top - 1, Lo: 1}, true},
		{api.Wide{Hi: 2, Lo: 1 << 63}, 3, api.Wide{Hi: 7, Lo: 1 << 63}, true},
		// 5 * 0x3333.. is 2^128 - 1, the greatest number, exactly.
		{api.Wide{Hi: top / 5, Lo: top / 5}, 5, api.Wide{Hi: top, Lo: top}, true},
		// 2^128, just above it: in the upper product, and in the carry.
		{api.Wide{Hi: 1 << 63}, 2, api.Wide{Hi: top, Lo: top}, false},
		{api.Wide{Hi: top / 5, Lo: top/5 + 1}, 5, api.Wide{Hi: top, Lo: top}, false},
		{api.Wide{Hi: top, Lo: top}, top, api.Wide{Hi: top, Lo: top}, false},
	} {
		got, ok := wide.Mul(c.a, c.n)
		if got != c.want || ok != c.ok {
			t.Errorf("Mul(%v, %d): %v, %v", c.a, c.n, got, ok)
		}
	}
}

func TestDiv(t *testing.T) {
	for _, c := range []struct {
		a    api.Wide
		n    uint64
		want api.Wide
		left uint64
	}{
		{api.Wide{}, 1, api.Wide{}, 0},
		{api.Wide{}, top, api.Wide{}, 0},
		{api.Wide{Lo: 43}, 6, api.Wide{Lo: 7}, 1},
		{api.Wide{Hi: 1}, 10, api.Wide{Lo: 1844674407370955161}, 6},
		{api.Wide{Hi: 7, Lo: 5}, 2, api.Wide{Hi: 3, Lo: 1<<63 + 2}, 1},
		{api.Wide{Hi: top, Lo: top}, 1, api.Wide{Hi: top, Lo: top}, 0},
		{api.Wide{Hi: top, Lo: top}, top, api.Wide{Hi: 1, Lo: 1}, 0},
		{api.Wide{Hi: top - 1, Lo: top}, top, api.Wide{Lo: top}, top - 1},
	} {
		got, left, e := wide.Div(c.a, c.n)
		if got != c.want || left != c.left || e != api.OK {
			t.Errorf("Div(%v, %d): %v, %d, %d", c.a, c.n, got, left, e)
		}
	}
}

func TestDivByNothing(t *testing.T) {
	for _, a := range numbers() {
		if got, left, e := wide.Div(a, 0); got != (api.Wide{}) || left != 0 || e != api.ErrArg {
			t.Errorf("Div(%v, 0): %v, %d, %d", a, got, left, e)
		}
	}
}

func TestProductsAndQuotientsOfAllPairs(t *testing.T) {
	for _, a := range numbers() {
		for _, n := range edges() {
			want, fits := wideOf(new(big.Int).Mul(bigOf(a), bigWord(n)))
			if !fits {
				want = wide.Most()
			}
			if got, ok := wide.Mul(a, n); got != want || ok != fits {
				t.Fatalf("Mul(%v, %d): %v, %v", a, n, got, ok)
			}
			if n == 0 {
				continue
			}
			q, r := new(big.Int).QuoRem(bigOf(a), bigWord(n), new(big.Int))
			want, _ = wideOf(q)
			if got, left, e := wide.Div(a, n); got != want || left != r.Uint64() || e != api.OK {
				t.Fatalf("Div(%v, %d): %v, %d, %d", a, n, got, left, e)
			}
		}
	}
}

func TestSum(t *testing.T) {
	for _, c := range []struct {
		list []uint64
		want api.Wide
	}{
		{nil, api.Wide{}},
		{[]uint64{}, api.Wide{}},
		{[]uint64{7}, api.Wide{Lo: 7}},
		{[]uint64{top}, api.Wide{Lo: top}},
		{[]uint64{1, 2, 3, 4}, api.Wide{Lo: 10}},
		{[]uint64{1, 2, top}, api.Wide{Hi: 1, Lo: 2}},
		{[]uint64{top, top, top, top}, api.Wide{Hi: 3, Lo: top - 3}},
	} {
		if got := wide.Sum(c.list...); got != c.want {
			t.Errorf("Sum(%v): %v, not %v", c.list, got, c.want)
		}
	}
	many := slices.Repeat([]uint64{top}, 1000)
	if got := wide.Sum(many...); got != (api.Wide{Hi: 999, Lo: top - 999}) {
		t.Errorf("Sum of 1000 numbers: %v", got)
	}
}

// P1.3

// texts are numbers with their texts, each written out.
func texts() map[string]api.Wide {
	return map[string]api.Wide{
		"0":                    {},
		"1":                    {Lo: 1},
		"9":                    {Lo: 9},
		"10":                   {Lo: 10},
		"1000000":              {Lo: 1000000},
		"18446744073709551615": {Lo: top},
		"18446744073709551616": {Hi: 1},
		"18446744073709551617": {Hi: 1, Lo: 1},
		"20000000000000000000": {Hi: 1, Lo: 1553255926290448384},
		"100000000000000000000000000000000000000": {Hi: 5421010862427522170, Lo: 687399551400673280},
		"340282366920938463463374607431768211454": {Hi: top, Lo: top - 1},
		"340282366920938463463374607431768211455": {Hi: top, Lo: top},
	}
}

func TestText(t *testing.T) {
	for s, a := range texts() {
		if got := wide.Text(a); got != s {
			t.Errorf("Text(%v): %s, not %s", a, got, s)
		}
	}
	for _, a := range numbers() {
		if got, want := wide.Text(a), bigOf(a).String(); got != want {
			t.Errorf("Text(%v): %s, not %s", a, got, want)
		}
	}
}

func TestParse(t *testing.T) {
	for s, a := range texts() {
		if got, e := wide.Parse(s); got != a || e != api.OK {
			t.Errorf("Parse(%s): %v, %d", s, got, e)
		}
	}
}

func TestParseOfNoNumber(t *testing.T) {
	long := strings.Repeat("9", 100)
	for _, s := range []string{
		"", " ", "-", "+", "-0", "-1", "+0", "+1", "00", "01", "007", " 1", "1 ", "1 2", "1\n", "1\x00",
		"1.", "1.0", "1e3", "1_000", "1,000", "0x10", "a", "1a", "a1", "12/", "12:", "/", ":", "٣", "１", "\xff", "0\xff",
		// Too great as well, but the form is told first.
		long + "x", "x" + long, "-" + long, "+" + long, "0" + long, long + " ", " " + long,
		long + "x" + long, "340282366920938463463374607431768211456 ", "00340282366920938463463374607431768211456",
		"-340282366920938463463374607431768211456", "34028236692093846346337460743176821145x",
		strings.Repeat("0", 40), "0" + "340282366920938463463374607431768211455",
	} {
		if got, e := wide.Parse(s); got != (api.Wide{}) || e != api.ErrForm {
			t.Errorf("Parse(%q): %v, %d", s, got, e)
		}
	}
}

func TestParseAboveTheGreatestNumber(t *testing.T) {
	for _, s := range []string{
		"340282366920938463463374607431768211456", // too great by its last digit only
		"340282366920938463463374607431768211459",
		"340282366920938463463374607431768211460", // too great by its last but one
		"400000000000000000000000000000000000000",
		"999999999999999999999999999999999999999",
		"1000000000000000000000000000000000000000",
		"3402823669209384634633746074317682114550",
		"680564733841876926926749214863536422912", // 2^129 wraps round to 0
		strings.Repeat("9", 100),
		"1" + strings.Repeat("0", 100000),
	} {
		if got, e := wide.Parse(s); got != (api.Wide{}) || e != api.ErrRange {
			t.Errorf("Parse(%.60s): %v, %d", s, got, e)
		}
	}
}

func TestParseOfEveryByte(t *testing.T) {
	for b := range 256 {
		digit := b >= '0' && b <= '9'
		for _, s := range []string{string([]byte{byte(b)}), string([]byte{'4', byte(b)}), string([]byte{'4', byte(b), '2'})} {
			if _, e := wide.Parse(s); (e == api.OK) != digit || e != api.OK && e != api.ErrForm {
				t.Errorf("Parse(%q): %d", s, e)
			}
		}
	}
}

// P1.4

func TestSubUndoesAdd(t *testing.T) {
	for _, a := range numbers() {
		for _, b := range numbers() {
			sum, ok := wide.Add(a, b)
			if !ok {
				continue
			}
			if got, ok := wide.Sub(sum, b); got != a || !ok {
				t.Fatalf("Sub(Add(%v, %v), %v): %v, %v", a, b, b, got, ok)
			}
		}
	}
}

func TestQuotientAndRemainderMakeUpTheNumber(t *testing.T) {
	for _, a := range numbers() {
		for _, n := range edges() {
			q, left, e := wide.Div(a, n)
			if n == 0 {
				continue
			}
			product, fits := wide.Mul(q, n)
			back, ok := wide.Add(product, wide.Of(left))
			if e != api.OK || left >= n || !fits || !ok || back != a {
				t.Fatalf("Div(%v, %d): %v, %d, %d", a, n, q, left, e)
			}
		}
	}
}

func TestParseInvertsText(t *testing.T) {
	for _, a := range numbers() {
		if got, e := wide.Parse(wide.Text(a)); got != a || e != api.OK {
			t.Errorf("Parse(Text(%v)): %v, %d", a, got, e)
		}
	}
}

// P2 (rule 4)

func TestArgumentsAreNotChanged(t *testing.T) {
	whole := []uint64{top, 2, 3, 99, 98}
	before := slices.Clone(whole)
	first := wide.Sum(whole[:3]...)
	if !slices.Equal(whole, before) {
		t.Errorf("Sum changed its list: %v", whole)
	}
	whole[0] = 0
	if first != (api.Wide{Hi: 1, Lo: 4}) {
		t.Errorf("Sum: %v", first)
	}
	for _, a := range numbers() {
		kept := wide.Text(a)
		wide.Text(wide.Most())
		if again := wide.Text(a); again != kept {
			t.Errorf("Text(%v): %s, then %s", a, kept, again)
		}
	}
}
