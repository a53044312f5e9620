package crc

import (
	"fmt"
	"math"
	"math/big"
	"math/bits"
	"math/rand"
	"strings"
	"testing"
)

// allBits are all bits of up to n.
func allBits(n int) []string {
	all := []string{""}
	for last := all; n > 0; n-- {
		var longer []string
		for _, s := range last {
			longer = append(longer, s+"0", s+"1")
		}
		all = append(all, longer...)
		last = longer
	}
	return all
}

// someBits are n bits by chance.
func someBits(random *rand.Rand, n int) string {
	l := make([]byte, n)
	for i := range l {
		l[i] = '0' + byte(random.Intn(2))
	}
	return string(l)
}

// noBits are texts that are no bits.
func noBits() []string {
	return []string{"2", "/", " ", "\x00", "\x01", "a", "é", "\uFFFD", "\xff", "\xb0", "０", "١", "01 ", " 01", "01\n", "0\x001", "0é1é", "01\xff0", "-1", "+0", "0x1", "0b1", "0_1", "1.0", "0101012", "2010101", strings.Repeat("01", 500) + "é", "\xff" + strings.Repeat("01", 500)}
}

// kind is a width and a poly.
type kind struct{ width, poly int }

// kinds are some that may be, of each width.
func kinds() []kind {
	random := rand.New(rand.NewSource(7))
	l := []kind{{15, 17817}}
	for width := 1; width <= 30; width++ {
		all := 1<<width - 1
		l = append(l, kind{width, 0}, kind{width, 1}, kind{width, all}, kind{width, 1 << (width - 1)}, kind{width, random.Intn(all + 1)}, kind{width, random.Intn(all+1) | 1})
	}
	return l
}

// noKinds are some that may not be.
func noKinds() []kind {
	l := []kind{{0, 0}, {0, 1}, {0, -1}, {-1, 0}, {-1, 1}, {-64, 1}, {31, 0}, {31, 1}, {32, 17817}, {63, 1}, {64, 1}, {65, 0}, {math.MaxInt, 1}, {math.MinInt, 1}, {math.MinInt, 0}, {math.MaxInt, math.MaxInt}, {15, math.MinInt}, {15, math.MaxInt}}
	for width := 1; width <= 30; width++ {
		l = append(l, kind{width, -1}, kind{width, 1 << width}, kind{width, 1<<width + 1}, kind{width, 1 << 40})
	}
	return l
}

// left is the check of bits, told otherwise than by the program: what a long division leaves of them, with width noughts behind them.
func left(s string, k kind) int {
	rest, by := new(big.Int), big.NewInt(int64(1<<k.width|k.poly))
	rest.SetString("0"+s+strings.Repeat("0", k.width), 2)
	for n := rest.BitLen(); n > k.width; n = rest.BitLen() {
		rest.Xor(rest, new(big.Int).Lsh(by, uint(n-k.width-1)))
	}
	return int(rest.Int64())
}

// isBits tells whether s is bits.
func isBits(s string) bool {
	return strings.Count(s, "0")+strings.Count(s, "1") == len(s)
}

// mustSum is Sum of what it may not refuse.
func mustSum(t *testing.T, s string, k kind) int {
	t.Helper()
	check, is := Sum(s, k.width, k.poly)
	if !is || check < 0 || check >= 1<<k.width {
		t.Fatal(s, k, check, is)
	}
	return check
}

// P7.1: one bit after the other
func TestSum(t *testing.T) {
	for _, c := range []struct {
		s           string
		width, poly int
		want        int
	}{
		{"", 1, 0, 0},
		{"", 15, 17817, 0},
		{"", 30, 1<<30 - 1, 0},
		{"0", 15, 17817, 0},
		{"1", 15, 17817, 17817},
		{"10", 15, 17817, 0x4eab},
		{"11", 15, 17817, 0x4eab ^ 0x4599},
		{"1", 1, 0, 0},
		{"1", 1, 1, 1},
		{"11", 1, 1, 0},
		{"10", 1, 1, 1},
		{"111", 1, 1, 1},
		{"1010011", 1, 1, 0},
		// What is beyond the width is let go.
		{"1", 3, 4, 4},
		{"10", 3, 4, 4},
		{"11", 3, 4, 0},
		{"1", 3, 3, 3},
		{"10", 3, 3, 6},
		{"100", 3, 3, 7},
		{"1000", 3, 3, 5},
		{"10000", 3, 3, 1},
		{"101", 3, 3, 4},
		{"1", 3, 0, 0},
		{"1", 30, 1<<30 - 1, 1<<30 - 1},
		{"10", 30, 1<<30 - 1, 1},
		{"1", 30, 1, 1},
		{"1" + strings.Repeat("0", 29), 30, 1, 1 << 29},
		{"1" + strings.Repeat("0", 30), 30, 1, 1},
	} {
		if got, is := Sum(c.s, c.width, c.poly); got != c.want || !is {
			t.Error(c, got, is)
		}
	}
}

// P7.1: checks that are known, of the digits from 1 to 9
func TestSumKnown(t *testing.T) {
	digits := ""
	for _, b := range []byte("123456789") {
		digits += fmt.Sprintf("%08b", b)
	}
	for _, c := range []struct{ width, poly, want int }{
		{7, 0x09, 0x75},
		{8, 0x07, 0xf4},
		{10, 0x233, 0x199},
		{11, 0x307, 0x061},
		{12, 0x80f, 0xf5b},
		{13, 0x1cf5, 0x04fa},
		{15, 0x4599, 0x059e},
		{16, 0x1021, 0x31c3},
		{17, 0x1685b, 0x04f03},
		{21, 0x102899, 0x0ed841},
		{24, 0x864cfb, 0xcde703},
		{24, 0x800063, 0x23ef52},
	} {
		if got, is := Sum(digits, c.width, c.poly); got != c.want || !is {
			t.Errorf("%d: %x, %v", c.width, got, is)
		}
	}
}

// P7.1: held against a long division
func TestSumAll(t *testing.T) {
	random := rand.New(rand.NewSource(71))
	for _, k := range kinds() {
		l := allBits(7)
		for n := range 100 {
			l = append(l, someBits(random, n))
		}
		for _, s := range l {
			if got := mustSum(t, s, k); got != left(s, k) {
				t.Fatal(s, k, got)
			}
		}
	}
	for width := 1; width <= 4; width++ {
		for poly := range 1 << width {
			for _, s := range allBits(8) {
				if got := mustSum(t, s, kind{width, poly}); got != left(s, kind{width, poly}) {
					t.Fatal(s, width, poly, got)
				}
			}
		}
	}
}

// P7.1: what is refused
func TestSumRefused(t *testing.T) {
	for _, k := range noKinds() {
		for _, s := range append(noBits(), "", "0", "1", "0101") {
			if got, is := Sum(s, k.width, k.poly); got != 0 || is {
				t.Errorf("%q, %v: %d, %v", s, k, got, is)
			}
		}
	}
	for _, k := range kinds() {
		for _, s := range noBits() {
			for _, s := range []string{s, "1" + s, s + "1", "1111" + s + "1111"} {
				if got, is := Sum(s, k.width, k.poly); got != 0 || is {
					t.Errorf("%q, %v: %d, %v", s, k, got, is)
				}
			}
		}
	}
}

// P7.1, P7.2, P7.3: each byte and rune by itself, and behind a bit
func TestRunes(t *testing.T) {
	try := func(s string, want bool) {
		_, sum := Sum(s, 8, 7)
		_, number := Number(s)
		if sum != want || number != want || (Crc(s) >= 0) != want || (Add(s, s) != "") != want {
			t.Fatalf("%q", s)
		}
	}
	for b := range 256 {
		is := b == '0' || b == '1'
		try(string([]byte{byte(b)}), is)
		try(string([]byte{'1', byte(b)}), is)
	}
	// Runes whose low bits are those of 0 or 1 are neither.
	for r := rune(128); r <= 0x10FFFF; r++ {
		try(string(r), false)
	}
}

// P7.2
func TestCrc(t *testing.T) {
	for _, c := range []struct {
		s    string
		want int
	}{
		{"", 0},
		{"0", 0},
		{"1", 17817},
		{"10", 20139},
		{"11", 2866},
		{"01", 17817},
		{"1" + strings.Repeat("0", 15), left("1000000000000000", kind{15, 17817})},
	} {
		if got := Crc(c.s); got != c.want {
			t.Error(c.s, got)
		}
	}
	random := rand.New(rand.NewSource(72))
	for n := range 300 {
		s := someBits(random, n)
		got := Crc(s)
		if want := mustSum(t, s, kind{15, 17817}); got != want || got != left(s, kind{15, 0x4599}) {
			t.Fatal(s, got)
		}
	}
	for _, s := range noBits() {
		if got := Crc(s); got != -1 {
			t.Errorf("%q: %d", s, got)
		}
	}
}

// P7.3: Bits
func TestBits(t *testing.T) {
	for _, c := range []struct {
		n, width int
		want     string
	}{
		{5, 4, "0101"},
		{0, 0, ""},
		{5, 0, ""},
		{0, 1, "0"},
		{1, 1, "1"},
		{2, 1, "0"},
		{3, 1, "1"},
		{0, 5, "00000"},
		{5, 2, "01"},
		{5, 3, "101"},
		{255, 8, "11111111"},
		{256, 8, "00000000"},
		{17817, 15, "100010110011001"},
		{6, 10, "0000000110"},
		{1, 60, strings.Repeat("0", 59) + "1"},
		{1 << 59, 60, "1" + strings.Repeat("0", 59)},
		{1<<60 - 1, 60, strings.Repeat("1", 60)},
		{1 << 60, 60, strings.Repeat("0", 60)},
		{1<<61 + 2, 60, strings.Repeat("0", 58) + "10"},
		{math.MaxInt, 60, strings.Repeat("1", 60)},
		{math.MaxInt, 3, "111"},
		{1, 61, ""},
		{1, 63, ""},
		{1, 64, ""},
		{1, math.MaxInt, ""},
		{1, -1, ""},
		{1, math.MinInt, ""},
		{-1, 4, ""},
		{-1, 60, ""},
		{-5, 1, ""},
		{-1, 0, ""},
		{-1, -1, ""},
		{-1, 61, ""},
		{math.MinInt, 8, ""},
	} {
		if got := Bits(c.n, c.width); got != c.want {
			t.Error(c.n, c.width, got)
		}
	}
	random := rand.New(rand.NewSource(73))
	for width := 1; width <= 60; width++ {
		for _, n := range []int{0, 1, width, 1 << (width - 1), 1<<width - 1, 1 << width, random.Int(), random.Int() >> width} {
			if got := Bits(n, width); got != fmt.Sprintf("%0*b", width, n&(1<<width-1)) {
				t.Error(n, width, got)
			}
		}
	}
}

// P7.3: Number
func TestNumber(t *testing.T) {
	for _, c := range []struct {
		s    string
		want int
		is   bool
	}{
		{"", 0, true},
		{"0", 0, true},
		{"1", 1, true},
		{"10", 2, true},
		{"01", 1, true},
		{"0101", 5, true},
		{"100010110011001", 17817, true},
		{strings.Repeat("0", 60), 0, true},
		{strings.Repeat("1", 60), 1<<60 - 1, true},
		{"1" + strings.Repeat("0", 59), 1 << 59, true},
		// Of more than 60, noughts ahead count.
		{strings.Repeat("0", 61), 0, false},
		{strings.Repeat("1", 61), 0, false},
		{strings.Repeat("0", 60) + "1", 0, false},
		{"1" + strings.Repeat("0", 60), 0, false},
		{strings.Repeat("0", 62), 0, false},
		{strings.Repeat("1", 64), 0, false},
		{strings.Repeat("1", 1000), 0, false},
		{strings.Repeat("1", 59) + "2", 0, false},
		{strings.Repeat("1", 30) + "é" + strings.Repeat("1", 20), 0, false},
	} {
		if got, is := Number(c.s); got != c.want || is != c.is {
			t.Error(c.s, got, is)
		}
	}
	for _, s := range noBits() {
		for _, s := range []string{s, "1" + s, s + "1"} {
			if got, is := Number(s); got != 0 || is {
				t.Errorf("%q: %d, %v", s, got, is)
			}
		}
	}
}

// P7.3: Number leads back from Bits, and Bits from Number.
func TestBack(t *testing.T) {
	random := rand.New(rand.NewSource(74))
	for width := range 61 {
		for range 30 {
			n := random.Intn(1 << width)
			if got, is := Number(Bits(n, width)); got != n || !is {
				t.Fatal(n, width, got, is)
			}
		}
	}
	for _, s := range allBits(10) {
		n, is := Number(s)
		if !is || Bits(n, len(s)) != s {
			t.Fatal(s, n, is)
		}
	}
}

// P7.4
func TestAdd(t *testing.T) {
	for _, c := range []struct{ a, b, want string }{
		{"", "", ""},
		{"0", "0", "0"},
		{"0", "1", "1"},
		{"1", "0", "1"},
		{"1", "1", "0"},
		{"0011", "0101", "0110"},
		{"1111", "0000", "1111"},
		{"1010", "1010", "0000"},
		// As many of both.
		{"", "0", ""},
		{"1", "", ""},
		{"0", "00", ""},
		{"11", "1", ""},
		{"0101", "01010", ""},
		{"01é", "0101", ""},
		{"0101", "01é", ""},
		{"01é", "010", ""},
		{"010", "01é", ""},
		{"é", "é", ""},
		{"2", "2", ""},
		{"2", "3", ""},
		{"\x00", "1", ""},
		{"1", "\x01", ""},
	} {
		if got := Add(c.a, c.b); got != c.want {
			t.Errorf("%q, %q: %q", c.a, c.b, got)
		}
	}
	for _, s := range noBits() {
		ones := strings.Repeat("1", len(s))
		if Add(s, ones) != "" || Add(ones, s) != "" || Add(s, s) != "" || Add(s, "") != "" || Add("", s) != "" {
			t.Errorf("%q", s)
		}
	}
}

// P7.4: all short ones
func TestAddAll(t *testing.T) {
	l := allBits(6)
	for _, a := range l {
		for _, b := range l {
			want := ""
			if len(a) == len(b) && a != "" {
				x, _ := Number(a)
				y, _ := Number(b)
				want = fmt.Sprintf("%0*b", len(a), x^y)
			}
			if got := Add(a, b); got != want {
				t.Fatal(a, b, got)
			}
		}
	}
}

// P7.5
func TestNoneLeft(t *testing.T) {
	random := rand.New(rand.NewSource(75))
	for _, k := range kinds() {
		for n := range 60 {
			s := someBits(random, n)
			if got := mustSum(t, s+Bits(mustSum(t, s, k), k.width), k); got != 0 {
				t.Fatal(s, k, got)
			}
		}
	}
	for _, s := range allBits(12) {
		if got := Crc(s + Bits(Crc(s), 15)); got != 0 {
			t.Fatal(s, got)
		}
	}
}

// P7.6
func TestLinear(t *testing.T) {
	random := rand.New(rand.NewSource(76))
	for _, k := range kinds() {
		for n := range 60 {
			a, b := someBits(random, n), someBits(random, n)
			if got := mustSum(t, Add(a, b), k); got != mustSum(t, a, k)^mustSum(t, b, k) {
				t.Fatal(a, b, k, got)
			}
		}
	}
}

// P7.7: each way of turning bits within a stretch, of small widths
func TestFoundAll(t *testing.T) {
	random := rand.New(rand.NewSource(77))
	for width := 1; width <= 6; width++ {
		for poly := 1; poly < 1<<width; poly += 2 {
			s := someBits(random, 20)
			check := mustSum(t, s, kind{width, poly})
			for at := range len(s) - width + 1 {
				for turn := 1; turn < 1<<width; turn++ {
					mask := strings.Repeat("0", at) + Bits(turn, width) + strings.Repeat("0", len(s)-width-at)
					if mustSum(t, Add(s, mask), kind{width, poly}) == check {
						t.Fatal(s, mask, width, poly)
					}
				}
			}
		}
	}
}

// P7.7: some of larger ones
func TestFound(t *testing.T) {
	random := rand.New(rand.NewSource(78))
	for _, k := range kinds() {
		if k.poly%2 == 0 {
			continue
		}
		for range 100 {
			s := someBits(random, 100)
			at, turn := random.Intn(len(s)-k.width+1), 1+random.Intn(1<<k.width-1)
			mask := strings.Repeat("0", at) + Bits(turn, k.width) + strings.Repeat("0", len(s)-k.width-at)
			if mustSum(t, Add(s, mask), k) == mustSum(t, s, k) {
				t.Fatal(s, mask, k)
			}
		}
	}
}

// P7.8
func TestAhead(t *testing.T) {
	random := rand.New(rand.NewSource(79))
	for _, k := range kinds() {
		for n := range 40 {
			s := someBits(random, n)
			if got := mustSum(t, strings.Repeat("0", 1+random.Intn(50))+s, k); got != mustSum(t, s, k) {
				t.Fatal(s, k, got)
			}
		}
		if got := mustSum(t, strings.Repeat("0", 1000), k); got != 0 {
			t.Fatal(k, got)
		}
	}
}

// P1: long texts end, too.
func TestLong(t *testing.T) {
	random := rand.New(rand.NewSource(80))
	s := someBits(random, 1<<20)
	check := Crc(s)
	if check < 0 || Crc(s+Bits(check, 15)) != 0 || Crc(s+"2") != -1 {
		t.Error(check)
	}
	if got := Add(s, s); got != strings.Repeat("0", len(s)) {
		t.Error(len(got))
	}
	if n, is := Number(s); n != 0 || is {
		t.Error(n)
	}
}

// P1, P2: calls that are refused change nothing that a later one could tell.
func TestRefusedCallsChangeNothing(t *testing.T) {
	for range 2 {
		if n, is := Sum("1", 8, 7); n != 7 || !is || Crc("1") != 17817 {
			t.Fatal(n, is)
		}
		if n, is := Number("0101"); n != 5 || !is || Bits(5, 4) != "0101" || Add("0011", "0101") != "0110" {
			t.Fatal(n, is)
		}
		for _, s := range noBits() {
			Sum(s, 8, 7)
			Crc(s)
			Number(s)
			Add(s, s)
		}
		for _, k := range noKinds() {
			Sum("1", k.width, k.poly)
		}
		Bits(-1, 4)
		Bits(5, 61)
		Number(strings.Repeat("1", 61))
		Add("0", "00")
	}
}

// P1: all calls end, at all arguments, and hold together.
func FuzzCallsEnd(f *testing.F) {
	for _, s := range append(noBits(), "", "0", "1", "0110", strings.Repeat("1", 60), strings.Repeat("1", 61)) {
		f.Add(s, "0101", 15, 17817)
		f.Add("0101", s, 8, 256)
	}
	for _, k := range append(kinds(), noKinds()...) {
		f.Add("0110", "1111", k.width, k.poly)
	}
	f.Fuzz(func(t *testing.T, a, b string, width, poly int) {
		for _, err := range []error{sums(a, kind{width, poly}), numbers(a, width, poly), adds(a, b)} {
			if err != nil {
				t.Error(err)
			}
		}
	})
}

// sums tells what is wrong with Sum and Crc.
func sums(s string, k kind) error {
	want, is, crc := 0, isBits(s), -1
	if is {
		crc = left(s, kind{15, 17817})
	}
	if got := Crc(s); got != crc {
		return fmt.Errorf("Crc of %q: %d", s, got)
	}
	is = is && k.width >= 1 && k.width <= 30 && k.poly >= 0 && bits.Len(uint(k.poly)) <= k.width
	if is {
		want = left(s, k)
	}
	if got, told := Sum(s, k.width, k.poly); got != want || told != is {
		return fmt.Errorf("Sum of %q, %v: %d, %v", s, k, got, told)
	}
	return nil
}

// numbers tells what is wrong with Number and Bits.
func numbers(s string, width, n int) error {
	want := new(big.Int)
	is := isBits(s) && len(s) <= 60
	if is {
		want.SetString("0"+s, 2)
	}
	if got, told := Number(s); int64(got) != want.Int64() || told != is {
		return fmt.Errorf("Number of %q: %d, %v", s, got, told)
	}
	text := ""
	if n >= 0 && width > 0 && width <= 60 {
		text = fmt.Sprintf("%064b", n)[64-width:]
	}
	if got := Bits(n, width); got != text {
		return fmt.Errorf("Bits of %d, %d: %q", n, width, got)
	}
	return nil
}

// adds tells what is wrong with Add.
func adds(a, b string) error {
	want := ""
	if isBits(a) && isBits(b) && len(a) == len(b) {
		for i := range len(a) {
			want += map[bool]string{true: "0", false: "1"}[a[i] == b[i]]
		}
	}
	if got := Add(a, b); got != want {
		return fmt.Errorf("Add of %q, %q: %q", a, b, got)
	}
	return nil
}
