package digits_test

import (
	"math"
	"math/big"
	"slices"
	"strconv"
	"strings"
	"testing"

	"haymow/api"
	"haymow/digits"
)

// texts are numbers with their texts, each written out.
func texts() map[string]int {
	return map[string]int{
		"0":                    0,
		"1":                    1,
		"-1":                   -1,
		"7":                    7,
		"9":                    9,
		"-9":                   -9,
		"10":                   10,
		"-10":                  -10,
		"-12":                  -12, // the chapter's example
		"99":                   99,
		"100":                  100,
		"-100":                 -100,
		"1000000":              1000000,
		"1020304050":           1020304050,
		"2147483647":           math.MaxInt32,
		"-2147483648":          math.MinInt32,
		"2147483648":           math.MaxInt32 + 1,
		"-2147483649":          math.MinInt32 - 1,
		"4294967296":           1 << 32,
		"1000000000000000000":  1e18,
		"-1000000000000000000": -1e18,
		"9223372036854775799":  math.MaxInt - 8,
		"9223372036854775800":  math.MaxInt - 7,
		"9223372036854775806":  math.MaxInt - 1,
		"9223372036854775807":  math.MaxInt,
		"-9223372036854775799": math.MinInt + 9,
		"-9223372036854775800": math.MinInt + 8,
		"-9223372036854775807": math.MinInt + 1,
		"-9223372036854775808": math.MinInt,
	}
}

// numbers are small ones, those next to each power of 2 and of 10, and those
// next to the ends, of either sign.
func numbers() []int {
	var out []int
	for n := -2000; n <= 2000; n++ {
		out = append(out, n)
	}
	for bit := range 64 {
		p := 1 << bit // of bit 63: the least int
		out = append(out, p-1, p, p+1, -p-1, -p, -p+1)
	}
	p := 1
	for range 18 {
		p *= 10
		out = append(out, p-1, p, p+1, -p-1, -p, -p+1, 9*p, -9*p)
	}
	for n := range 2000 {
		out = append(out, math.MaxInt-n, math.MinInt+n)
	}
	return out
}

// fault is the error that Read owes for s, by integers of any size: the form
// is right if writing the integer out again gives the same text.
func fault(s string) api.Errno {
	n, ok := new(big.Int).SetString(s, 10)
	if !ok || n.String() != s {
		return api.ErrForm
	}
	if !n.IsInt64() {
		return api.ErrRange
	}
	return api.OK
}

// checkRead holds Read of s against integers of any size.
func checkRead(t *testing.T, s string) {
	t.Helper()
	want, e := 0, fault(s)
	if e == api.OK {
		n, _ := new(big.Int).SetString(s, 10)
		want = int(n.Int64())
	}
	if got, f := digits.Read(s); got != want || f != e {
		t.Errorf("Read(%.80q): %d, %d, not %d, %d", s, got, f, want, e)
	}
}

// wrongForms are texts of no integer.
func wrongForms() []string {
	long := strings.Repeat("9", 100)
	return []string{
		"", " ", "-", "--", "+", "-+", "+-", "-0", "+0", "+1", "-+1", "+-1", "--1", "1-", "1-2", "-1-", "- 1", "-1-1",
		"00", "000", "01", "012", "007", "-00", "-01", "-012", "0-", "0-1",
		" 1", "1 ", " -1", "-1 ", "1 2", "1\t", "\t1", "1\n", "\n1", "1\r", "1\x00", "\x001", "-\x00", "-1\x00",
		"1.", "1.0", ".1", "1e3", "1_000", "1,000", "0x10", "0b1", "0o7", "a", "1a", "a1", "-a", "ff", "nan", "inf", "-inf",
		"12/", "12:", "/", ":", "-/", "-:", "٣", "１", "−1", "1\u00a0", "\xff", "0\xff", "1\xff", "\xb2",
		// Too great as well, but the form is told first.
		long + "x", "x" + long, "+" + long, "--" + long, "0" + long, "-0" + long, long + " ", " " + long, long + "-",
		long + "x" + long, "-" + long + "x", "- " + long, "+9223372036854775808", "9223372036854775808x",
		"-9223372036854775809x", "09223372036854775808", "-09223372036854775809", "9223372036854775808 ",
		"00009223372036854775807", "-00009223372036854775808", strings.Repeat("0", 40), "-" + strings.Repeat("0", 40),
		strings.Repeat("0", 40) + "7",
	}
}

// wrongRanges are texts of integers that are no int.
func wrongRanges() []string {
	return []string{
		"9223372036854775808", // too great by its last digit only
		"9223372036854775809",
		"9223372036854775810", // too great by its last but one
		"9223372036854775817",
		"9300000000000000000",
		"9999999999999999999",
		"10000000000000000000",
		"18446744073709551615", // 2^64 - 1 to 2^64 + 1 wrap round to small numbers
		"18446744073709551616",
		"18446744073709551617",
		"18446744073709551623",
		"36893488147419103239",
		"92233720368547758070",
		"100000000000000000000",
		"340282366920938463463374607431768211456",
		strings.Repeat("9", 100),
		"1" + strings.Repeat("0", 100000),
		"-9223372036854775809", // too small by its last digit only
		"-9223372036854775810",
		"-9223372036854775818",
		"-9300000000000000000",
		"-9999999999999999999",
		"-10000000000000000000",
		"-18446744073709551615",
		"-18446744073709551616",
		"-18446744073709551617",
		"-27670116110564327424",
		"-92233720368547758080",
		"-340282366920938463463374607431768211456",
		"-" + strings.Repeat("9", 100),
		"-1" + strings.Repeat("0", 100000),
	}
}

// P3.1

func TestText(t *testing.T) {
	for s, n := range texts() {
		if got := digits.Text(n); got != s {
			t.Errorf("Text(%d): %q, not %q", n, got, s)
		}
	}
	for _, n := range numbers() {
		if got, want := digits.Text(n), big.NewInt(int64(n)).String(); got != want {
			t.Errorf("Text(%d): %q, not %q", n, got, want)
		}
	}
}

func TestRead(t *testing.T) {
	for s, n := range texts() {
		if got, e := digits.Read(s); got != n || e != api.OK {
			t.Errorf("Read(%q): %d, %d", s, got, e)
		}
	}
	for _, n := range numbers() {
		checkRead(t, strconv.Itoa(n))
	}
}

func TestReadOfNoInteger(t *testing.T) {
	for _, s := range wrongForms() {
		if got, e := digits.Read(s); got != 0 || e != api.ErrForm {
			t.Errorf("Read(%.80q): %d, %d", s, got, e)
		}
	}
}

func TestReadOfNoInt(t *testing.T) {
	for _, s := range wrongRanges() {
		if got, e := digits.Read(s); got != 0 || e != api.ErrRange {
			t.Errorf("Read(%.80q): %d, %d", s, got, e)
		}
	}
}

func TestReadNextToTheEnds(t *testing.T) {
	for _, sign := range []string{"", "-"} {
		for last := range 200 {
			checkRead(t, sign+"92233720368547"+strconv.Itoa(75700+last))
			checkRead(t, sign+"9223372036854775"+strconv.Itoa(700+last))
			checkRead(t, sign+"1844674407370955"+strconv.Itoa(1500+last))
		}
		// One digit more than fits, of every number of digits.
		for n := range 60 {
			for _, digit := range []string{"1", "5", "8", "9"} {
				checkRead(t, sign+strings.Repeat(digit, n))
				checkRead(t, sign+digit+strings.Repeat("0", n))
			}
		}
	}
}

func TestReadOfAllShortTexts(t *testing.T) {
	all := []string{""}
	for range 5 {
		var next []string
		for _, s := range all {
			for _, c := range "-019+ xA" {
				next = append(next, s+string(c))
			}
		}
		for _, s := range next {
			checkRead(t, s)
		}
		all = next
	}
}

func TestReadOfEveryByte(t *testing.T) {
	for b := range 256 {
		c := string([]byte{byte(b)})
		for _, s := range []string{c, "4" + c, c + "4", "4" + c + "2", "-" + c, "-4" + c, "-4" + c + "2",
			"922337203685477580" + c, "-922337203685477580" + c, "9223372036854775" + c + "08", "99999999999999999999" + c + "9"} {
			checkRead(t, s)
		}
	}
}

// P3.2

func TestList(t *testing.T) {
	for _, c := range []struct {
		list []int
		want string
	}{
		{nil, ""},
		{[]int{}, ""},
		{[]int{0}, "0"},
		{[]int{-12}, "-12"},
		{[]int{0, 0}, "0 0"},
		{[]int{1, -2, 30}, "1 -2 30"},
		{[]int{16, 0, 8, 1, 0}, "16 0 8 1 0"},
		{[]int{-1, -1, -1}, "-1 -1 -1"},
		{[]int{math.MinInt, math.MaxInt}, "-9223372036854775808 9223372036854775807"},
	} {
		if got := digits.List(c.list...); got != c.want {
			t.Errorf("List(%v): %q, not %q", c.list, got, c.want)
		}
		if got, e := digits.ReadList(c.want); !slices.Equal(got, c.list) || e != api.OK {
			t.Errorf("ReadList(%q): %v, %d", c.want, got, e)
		}
	}
	if got := digits.List(); got != "" {
		t.Errorf("List(): %q", got)
	}
	if got := digits.List(5, -6); got != "5 -6" {
		t.Errorf("List(5, -6): %q", got)
	}
}

func TestListOfManyNumbers(t *testing.T) {
	var parts []string
	for _, n := range numbers() {
		parts = append(parts, strconv.Itoa(n))
	}
	want := strings.Join(parts, " ")
	if got := digits.List(numbers()...); got != want {
		t.Errorf("List of many numbers")
	}
	if got, e := digits.ReadList(want); !slices.Equal(got, numbers()) || e != api.OK {
		t.Errorf("ReadList of many numbers: %d of them, %d", len(got), e)
	}
	long := strings.Repeat("7 ", 1<<20) + "7"
	if got, e := digits.ReadList(long); len(got) != 1<<20+1 || e != api.OK || digits.List(got...) != long {
		t.Errorf("ReadList of a long text: %d numbers, %d", len(got), e)
	}
}

// checkReadList holds ReadList of s against its parts, of which the first one
// with an error determines the result.
func checkReadList(t *testing.T, s string) {
	t.Helper()
	var want []int
	e := api.OK
	if s != "" {
		for _, part := range strings.Split(s, " ") {
			if e = fault(part); e != api.OK {
				want = nil
				break
			}
			n, _ := strconv.Atoi(part)
			want = append(want, n)
		}
	}
	if got, f := digits.ReadList(s); !slices.Equal(got, want) || f != e {
		t.Errorf("ReadList(%.80q): %v, %d, not %v, %d", s, got, f, want, e)
	}
}

func TestReadListWithAnError(t *testing.T) {
	const great, small = "9223372036854775808", "-9223372036854775809"
	for _, c := range []struct {
		s string
		e api.Errno
	}{
		// Blanks with nothing before them, behind them or between them.
		{" ", api.ErrForm}, {"  ", api.ErrForm}, {" 1", api.ErrForm}, {"1 ", api.ErrForm}, {" 1 ", api.ErrForm},
		{"1  2", api.ErrForm}, {"1   2", api.ErrForm}, {"1 2 ", api.ErrForm}, {" 1 2", api.ErrForm},
		// Separated by something else.
		{"1\t2", api.ErrForm}, {"1\n2", api.ErrForm}, {"1 2\n", api.ErrForm}, {"1\r\n2", api.ErrForm}, {"1\x002", api.ErrForm},
		{"1,2", api.ErrForm}, {"1, 2", api.ErrForm}, {"1\u00a02", api.ErrForm}, {"1 \t2", api.ErrForm}, {"1-2", api.ErrForm},
		// A part that is wrong, in each place.
		{"x", api.ErrForm}, {"x 1 2", api.ErrForm}, {"1 x 2", api.ErrForm}, {"1 2 x", api.ErrForm},
		{"01", api.ErrForm}, {"01 2", api.ErrForm}, {"1 02", api.ErrForm}, {"1 -0", api.ErrForm}, {"-0 1", api.ErrForm},
		{"1 +2", api.ErrForm}, {"1 - 2", api.ErrForm}, {"- 1", api.ErrForm}, {"-1 -", api.ErrForm},
		{great, api.ErrRange}, {great + " 1", api.ErrRange}, {"1 " + great, api.ErrRange}, {"1 " + small + " 2", api.ErrRange},
		// Several errors: the first part with one determines it.
		{great + " x", api.ErrRange}, {"x " + great, api.ErrForm}, {"1 " + great + " x", api.ErrRange}, {"1 x " + small, api.ErrForm},
		{great + " ", api.ErrRange}, {" " + great, api.ErrForm}, {great + "  1", api.ErrRange}, {"1  " + great, api.ErrForm},
		{small + " " + great + " 01", api.ErrRange}, {great + "x " + great, api.ErrForm}, {"0 " + great + " 00", api.ErrRange},
	} {
		if got, e := digits.ReadList(c.s); len(got) != 0 || e != c.e {
			t.Errorf("ReadList(%q): %v, %d, not %d", c.s, got, e, c.e)
		}
	}
}

func TestReadListOfWrongParts(t *testing.T) {
	for _, s := range slices.Concat(wrongForms(), wrongRanges()) {
		checkReadList(t, s)
		for _, list := range []string{s + " 5", "5 " + s, "5 " + s + " 6", "5 6 7 " + s} {
			checkReadList(t, list)
		}
		for _, other := range []string{"x", "", "01", "9223372036854775808"} {
			checkReadList(t, s+" "+other)
			checkReadList(t, other+" "+s)
		}
	}
}

func TestReadListOfAllShortTexts(t *testing.T) {
	all := []string{""}
	for range 5 {
		var next []string
		for _, s := range all {
			for _, c := range []string{" ", "0", "5", "-", "x", "9223372036854775808"} {
				next = append(next, s+c)
			}
		}
		for _, s := range next {
			checkReadList(t, s)
		}
		all = next
	}
}

func TestReadListOfTheEmptyText(t *testing.T) {
	if got, e := digits.ReadList(""); len(got) != 0 || e != api.OK {
		t.Errorf("ReadList of nothing: %v, %d", got, e)
	}
}

// P3.3

// hexTexts are words with their hexadecimal digits, each written out.
func hexTexts() map[string]uint64 {
	return map[string]uint64{
		"0000000000000000": 0,
		"0000000000000001": 1,
		"0000000000000009": 9,
		"000000000000000a": 10,
		"000000000000000f": 15,
		"0000000000000010": 16,
		"00000000000000ff": 255, // the chapter's example
		"00000000000001fe": 510,
		"4000000000002001": 0x4000000000002001,
		"00000000ffffffff": math.MaxUint32,
		"0000000100000000": 1 << 32,
		"0123456789abcdef": 0x0123456789abcdef,
		"fedcba9876543210": 0xfedcba9876543210,
		"42f0e1eba9ea3693": 0x42f0e1eba9ea3693,
		"7fffffffffffffff": 1<<63 - 1,
		"8000000000000000": 1 << 63,
		"f000000000000000": 15 << 60,
		"fffffffffffffffe": math.MaxUint64 - 1,
		"ffffffffffffffff": math.MaxUint64,
	}
}

// words are those of the texts, and those with a single figure, whichever it
// is, in each place.
func words() []uint64 {
	var out []uint64
	for _, w := range hexTexts() {
		out = append(out, w)
	}
	for place := range 16 {
		for figure := range uint64(16) {
			w := figure << (4 * place)
			out = append(out, w, ^w, w|1<<(4*place), 0x0123456789abcdef^w)
		}
	}
	return out
}

// padded is the hexadecimal text of w as strconv writes it, with zeros ahead.
func padded(w uint64) string {
	s := strconv.FormatUint(w, 16)
	return strings.Repeat("0", 16-len(s)) + s
}

func TestHex(t *testing.T) {
	for s, w := range hexTexts() {
		if got := digits.Hex(w); got != s {
			t.Errorf("Hex(%x): %q, not %q", w, got, s)
		}
	}
	for _, w := range words() {
		if got := digits.Hex(w); got != padded(w) {
			t.Errorf("Hex(%x): %q", w, got)
		}
	}
}

func TestReadHex(t *testing.T) {
	for s, w := range hexTexts() {
		if got, e := digits.ReadHex(s); got != w || e != api.OK {
			t.Errorf("ReadHex(%q): %x, %d", s, got, e)
		}
	}
	for _, w := range words() {
		if got, e := digits.ReadHex(padded(w)); got != w || e != api.OK {
			t.Errorf("ReadHex(%q): %x, %d", padded(w), got, e)
		}
	}
}

func TestReadHexOfNoWord(t *testing.T) {
	for _, s := range []string{
		"", "0", "ff", "000000000000000", "00000000000000000", "fffffffffffffff", "fffffffffffffffff", strings.Repeat("0", 32),
		// Upper-case figures: all, and one.
		"00000000000000FF", "000000000000000A", "FEDCBA9876543210", "fedcba987654321F", "A000000000000000", "0123456789Abcdef",
		// A prefix, a sign, a blank, or the like in place of a figure or beside all.
		"0x000000000000ff", "0x00000000000000ff", "0X000000000000ff", "-000000000000001", "+000000000000001", "-0000000000000001",
		"               1", "1               ", " 00000000000000ff", "00000000000000ff ", "00000000 00000ff", "00000000_0000_ff",
		"00000000000000f\n", "00000000000000ff\n", "\x0000000000000000f", "00000000000000f\x00", "000000000000000g", "g000000000000000",
		"000000000000000é", "00000000000000é", "００００００００００００００００", "\xff\xff\xff\xff\xff\xff\xff\xff\xff\xff\xff\xff\xff\xff\xff\xff",
	} {
		if got, e := digits.ReadHex(s); got != 0 || e != api.ErrForm {
			t.Errorf("ReadHex(%q): %x, %d", s, got, e)
		}
	}
}

func TestReadHexOfEveryLength(t *testing.T) {
	for n := range 70 {
		for _, figure := range []string{"0", "1", "f"} {
			_, e := digits.ReadHex(strings.Repeat(figure, n))
			if (e == api.OK) != (n == 16) || e != api.OK && e != api.ErrForm {
				t.Errorf("ReadHex of %d times %s: %d", n, figure, e)
			}
		}
	}
}

func TestReadHexOfEveryByteInEveryPlace(t *testing.T) {
	for place := range 16 {
		for b := range 256 {
			text := []byte("1234567890abcdef")
			text[place] = byte(b)
			want, e := uint64(0), api.ErrForm
			if b >= '0' && b <= '9' || b >= 'a' && b <= 'f' {
				want, _ = strconv.ParseUint(string(text), 16, 64)
				e = api.OK
			}
			if got, f := digits.ReadHex(string(text)); got != want || f != e {
				t.Errorf("ReadHex(%q): %x, %d", text, got, f)
			}
		}
	}
}

// P3.4

func TestReadInvertsText(t *testing.T) {
	for _, n := range numbers() {
		if got, e := digits.Read(digits.Text(n)); got != n || e != api.OK {
			t.Errorf("Read(Text(%d)): %d, %d", n, got, e)
		}
	}
}

func TestReadListInvertsList(t *testing.T) {
	all := numbers()
	for n := range 300 {
		for _, list := range [][]int{all[:n], all[len(all)-n:], all[n : 2*n]} {
			if got, e := digits.ReadList(digits.List(list...)); !slices.Equal(got, list) || e != api.OK {
				t.Errorf("ReadList(List(%v)): %v, %d", list, got, e)
			}
		}
	}
}

func TestReadHexInvertsHex(t *testing.T) {
	for _, w := range words() {
		if got, e := digits.ReadHex(digits.Hex(w)); got != w || e != api.OK {
			t.Errorf("ReadHex(Hex(%x)): %x, %d", w, got, e)
		}
	}
}

// P2 (rules 3 and 4); P1 is that of all the texts above

func TestArgumentsAreNotChanged(t *testing.T) {
	whole := []int{3, -9, 77, math.MinInt, 5, 6}
	before := slices.Clone(whole)
	for n := range whole {
		// A slice with room behind it, of which the room is not to be changed either.
		first := digits.List(whole[:n]...)
		if again := digits.List(whole[:n]...); again != first {
			t.Errorf("List(%v): %q, then %q", whole[:n], first, again)
		}
	}
	if !slices.Equal(whole, before) {
		t.Errorf("changed: %v", whole)
	}
	kept := digits.List(whole...)
	clear(whole)
	if kept != "3 -9 77 -9223372036854775808 5 6" {
		t.Errorf("List: %q", kept)
	}
}

func TestResultsAreNew(t *testing.T) {
	for _, s := range []string{"1 2 3", "7"} {
		first, _ := digits.ReadList(s)
		second, _ := digits.ReadList(s)
		want := slices.Clone(second)
		clear(first[:cap(first)])
		if !slices.Equal(second, want) {
			t.Errorf("ReadList(%q): two results share their numbers", s)
		}
		if third, e := digits.ReadList(s); !slices.Equal(third, want) || e != api.OK {
			t.Errorf("ReadList(%q) after a change of its result: %v, %d", s, third, e)
		}
	}
	text, word := digits.Text(-12), digits.Hex(255)
	digits.Text(math.MinInt)
	digits.Hex(math.MaxUint64)
	if text != "-12" || word != "00000000000000ff" {
		t.Errorf("changed by a later call: %q, %q", text, word)
	}
}

func TestFailedCallsHaveNoEffect(t *testing.T) {
	for _, s := range slices.Concat(wrongForms(), wrongRanges()) {
		digits.Read(s)
		digits.ReadList("4 " + s)
		digits.ReadHex(s)
	}
	n, e := digits.Read("-12")
	list, f := digits.ReadList("1 -2 30")
	w, g := digits.ReadHex("00000000000001fe")
	if n != -12 || !slices.Equal(list, []int{1, -2, 30}) || w != 510 || e != api.OK || f != api.OK || g != api.OK {
		t.Errorf("after failed calls: %d, %v, %x", n, list, w)
	}
}
