package stuff

import (
	"fmt"
	"math/rand"
	"strings"
	"testing"
)

// texts are all texts of up to n of these runes.
func texts(n int, of ...string) []string {
	all := []string{""}
	for last := all; n > 0; n-- {
		var longer []string
		for _, s := range last {
			for _, r := range of {
				longer = append(longer, s+r)
			}
		}
		all = append(all, longer...)
		last = longer
	}
	return all
}

func allBits(n int) []string { return texts(n, "0", "1") }

// longBits are some bits of up to n, with short runs and with long ones.
func longBits(n int) []string {
	random := rand.New(rand.NewSource(6))
	l := []string{strings.Repeat("0", n), strings.Repeat("1", n), strings.Repeat("01", n/2), strings.Repeat("00000", n/5), strings.Repeat("1111100000", n/10), "1" + strings.Repeat("11110000", n/8)}
	for share := range 10 {
		bits := []byte{'0'}
		for len(bits) < n {
			last := bits[len(bits)-1]
			if random.Intn(10) <= share {
				last ^= 1
			}
			bits = append(bits, last)
		}
		l = append(l, string(bits), string(bits[:n/2]))
	}
	return l
}

// noBits are texts that are no bits, with the first place where a rune is none.
func noBits() map[string]int {
	return map[string]int{
		"2":            0,
		"/":            0,
		" ":            0,
		"\x00":         0,
		"\x01":         0,
		"a":            0,
		"é":            0,
		"\uFFFD":       0,
		"\xff":         0,
		"\xb0":         0,
		"０":            0,
		"١":            0,
		"01 ":          2,
		" 01":          0,
		"01\n":         2,
		"0\x001":       1,
		"0é1é":         1,
		"01\xff0":      2,
		"0101é":        4,
		"é111111":      0,
		"-1":           0,
		"+0":           0,
		"0x1":          1,
		"0_1":          1,
		"11112":        4,
		"111112":       5,
		"11111é":       5,
		"11111\xff":    5,
		"1111102":      6,
		"00000122":     6,
		"22222":        0,
		"222222":       0,
		"0222222":      1,
		"\xff\xff\xff": 0,
		"00001\u0130":  5,
		"0\U000100310": 1,
	}
}

// isBits is Right, told otherwise than by the program.
func isBits(s string) bool {
	return strings.Trim(s, "01") == "" && !strings.ContainsFunc(s, func(r rune) bool { return r != '0' && r != '1' })
}

// longestRun is Run, with all pieces of the text looked at.
func longestRun(s string) int {
	l := []rune(s)
	longest := 0
	for from := range l {
		for to := from + 1; to <= len(l); to++ {
			if piece := string(l[from:to]); piece == strings.Repeat(string(l[from]), to-from) {
				longest = max(longest, to-from)
			}
		}
	}
	return longest
}

// stuffed is Stuff of bits: whatever has been told, its end says whether a bit is put in.
func stuffed(s string) string {
	told := ""
	for _, b := range strings.Split(s, "") {
		told += b
		if strings.HasSuffix(told, "00000") {
			told += "1"
		} else if strings.HasSuffix(told, "11111") {
			told += "0"
		}
	}
	return told
}

// turned is Turn of bits.
func turned(s string) string {
	return strings.NewReplacer("0", "1", "1", "0").Replace(s)
}

// P6.1: Right
func TestRight(t *testing.T) {
	for _, s := range append(append(allBits(8), longBits(1000)...), strings.Repeat("01", 100000)) {
		if !Right(s) {
			t.Error(s)
		}
	}
	for s := range noBits() {
		if Right(s) {
			t.Errorf("%q", s)
		}
		if s = strings.Repeat("0", 1000) + s; Right(s) {
			t.Errorf("%q", s)
		}
	}
	for _, s := range texts(4, "0", "1", "2", "é", "\xff") {
		if got := Right(s); got != isBits(s) {
			t.Errorf("%q: %v", s, got)
		}
	}
}

// P6.1: Right, each byte and rune by itself, and beside bits
func TestRightRunes(t *testing.T) {
	for b := range 256 {
		want := b == '0' || b == '1'
		for _, s := range []string{string([]byte{byte(b)}), string([]byte{'0', byte(b)}), string([]byte{byte(b), '1'})} {
			if got := Right(s); got != want {
				t.Errorf("%q: %v", s, got)
			}
		}
	}
	// Runes whose low bits are those of 0 or 1 are neither.
	for r := rune(128); r <= 0x10FFFF; r++ {
		if Right(string(r)) {
			t.Fatal(r)
		}
	}
}

// P6.1: Run
func TestRun(t *testing.T) {
	for _, c := range []struct {
		s    string
		want int
	}{
		{"", 0},
		{"0", 1},
		{"1", 1},
		{"01", 1},
		{"010101", 1},
		{"0011", 2},
		{"0110", 2},
		{"0111011", 3},
		{"1101110", 3},
		{"111", 3},
		{"00000", 5},
		{"111111", 6},
		{"0111110111111", 6},
		// Runs may be of runes that are no bits.
		{"a", 1},
		{"abc", 1},
		{"aab", 2},
		{"abb", 2},
		{"ababaa", 2},
		{"1a1a1", 1},
		{"\x00", 1},
		{"\x00\x00\x001", 3},
		{"ééé", 3},
		{"éèé", 1},
		{"00é", 2},
		{"éé0", 2},
		{"\U0010FFFF\U0010FFFF", 2},
		{"a\u0301a\u0301", 1},
		// Bytes that are no rune are read as the rune that stands for such.
		{"\xff", 1},
		{"\xff\xff", 2},
		{"\xff0\xff", 1},
		{strings.Repeat("0", 1000) + strings.Repeat("1", 1001), 1001},
		{strings.Repeat("0", 1001) + strings.Repeat("1", 1000), 1001},
	} {
		if got := Run(c.s); got != c.want {
			t.Errorf("%q: %d", c.s, got)
		}
	}
}

// P6.1: Run, held against all pieces of a text
func TestRunPieces(t *testing.T) {
	for _, s := range append(allBits(9), texts(5, "0", "1", "é", "\x00")...) {
		if got := Run(s); got != longestRun(s) {
			t.Fatalf("%q: %d", s, got)
		}
	}
	for n := range 50 {
		s := strings.Repeat("1", n+1)
		if Run(s) != n+1 || Run("0"+s+"0") != n+1 || Run(s+"0"+s[1:]) != n+1 || Run(s[1:]+"0"+s) != n+1 {
			t.Error(n)
		}
	}
}

// P6.1: Turn
func TestTurn(t *testing.T) {
	for _, c := range []struct{ s, want string }{
		{"", ""},
		{"0", "1"},
		{"1", "0"},
		{"00000", "11111"},
		{"111111", "000000"},
		{"0100110", "1011001"},
	} {
		if got := Turn(c.s); got != c.want {
			t.Error(c.s, got)
		}
	}
	for _, s := range append(allBits(8), longBits(1000)...) {
		if got := Turn(s); got != turned(s) || Turn(got) != s {
			t.Error(s, got)
		}
	}
	for s := range noBits() {
		if got := Turn(s); got != "" {
			t.Errorf("%q: %q", s, got)
		}
	}
}

// P6.2
func TestStuff(t *testing.T) {
	for _, c := range []struct{ s, want string }{
		{"", ""},
		{"0", "0"},
		{"1", "1"},
		{"01", "01"},
		{"0000", "0000"},
		{"1111", "1111"},
		{"00000", "000001"},
		{"11111", "111110"},
		{"000000", "0000010"},
		{"111111", "1111101"},
		{"000001", "0000011"},
		{"111110", "1111100"},
		// Those that were put in count.
		{"000001111", "00000111110"},
		{"111110000", "11111000001"},
		{"0000011110000", "0000011111000001"},
		{"00000111", "000001111"},
		{"000001110", "0000011110"},
		{"0000000000", "000001000001"},
		{"1111111111", "111110111110"},
		{"000000000", "0000010000"},
		{"0000111100001111", "0000111100001111"},
		{"0111110", "01111100"},
		{"0101010000010", "01010100000110"},
	} {
		if got := Stuff(c.s); got != c.want {
			t.Error(c.s, got)
		}
	}
	for s := range noBits() {
		if got := Stuff(s); got != "" {
			t.Errorf("%q: %q", s, got)
		}
	}
}

// P6.2: all short bits, and some long ones
func TestStuffAll(t *testing.T) {
	for _, s := range append(allBits(13), longBits(1000)...) {
		if got := Stuff(s); got != stuffed(s) {
			t.Fatal(s, got)
		}
	}
	for _, s := range texts(7, "0", "1", "é") {
		if got := Stuff(s); !isBits(s) && got != "" {
			t.Fatal(s, got)
		}
	}
}

// P6.3
func TestUnstuff(t *testing.T) {
	for _, c := range []struct {
		s, want string
		place   int
	}{
		{"", "", -1},
		{"0", "0", -1},
		{"1", "1", -1},
		{"0000", "0000", -1},
		{"1111", "1111", -1},
		{"000001", "00000", -1},
		{"111110", "11111", -1},
		{"0000011", "000001", -1},
		{"0000010", "000000", -1},
		{"00000111110", "000001111", -1},
		{"11111000001", "111110000", -1},
		{"01111100", "0111110", -1},
		// The sixth bit of a run.
		{"000000", "", 5},
		{"111111", "", 5},
		{"1111111", "", 5},
		{"1111110", "", 5},
		{"01111110", "", 6},
		{"00000111111", "", 10},
		{"11111000000", "", 10},
		{"111110000001", "", 10},
		{"000000111111", "", 5},
		// A bit that must be put in is missing at the end.
		{"00000", "", 5},
		{"11111", "", 5},
		{"011111", "", 6},
		{"0000011111", "", 10},
		{"1111100000", "", 10},
		{"000001111100000", "", 15},
		// Whatever comes first is told.
		{"2111111", "", 0},
		{"1111112", "", 5},
		{"11111112", "", 5},
		{"111112", "", 5},
		{"1111121", "", 5},
		{"é11111", "", 0},
		{"0é11111", "", 1},
		{"011111é", "", 6},
		{"0111111é", "", 6},
	} {
		if got, place := Unstuff(c.s); got != c.want || place != c.place {
			t.Errorf("%q: %q, %d", c.s, got, place)
		}
	}
	for s, want := range noBits() {
		if got, place := Unstuff(s); got != "" || place != want {
			t.Errorf("%q: %q, %d", s, got, place)
		}
	}
}

// images are the Stuff of all bits of up to n, told by the test, with these bits; and all texts that one of them begins with.
func images(n int) (map[string]string, map[string]bool) {
	all, ahead := map[string]string{}, map[string]bool{}
	for _, s := range allBits(n) {
		told := stuffed(s)
		all[told] = s
		for i := range len(told) + 1 {
			ahead[told[:i]] = true
		}
	}
	return all, ahead
}

// P6.3: the place is behind the longest text ahead that something stuffed begins with.
func TestUnstuffAll(t *testing.T) {
	all, ahead := images(14)
	for _, s := range append(allBits(12), texts(7, "0", "1", "é")...) {
		want, place := "", -1
		if bits, is := all[s]; is {
			want = bits
		} else {
			for place = len(s); !ahead[s[:place]]; {
				place--
			}
		}
		if got, at := Unstuff(s); got != want || at != place {
			t.Fatalf("%q: %q, %d; want %q, %d", s, got, at, want, place)
		}
	}
}

// P6.3: a fault, or none, far from the beginning
func TestUnstuffLate(t *testing.T) {
	for _, c := range []struct {
		end   string
		place int // counted from the end's beginning on
	}{
		{"", -1},
		{"0", -1},
		{"111", -1},
		{"11110", -1},
		{"00001", -1},
		{"1111", 4},
		{"11111", 4},
		{"111111", 4},
		{"11110000", -1},
		{"111100000", 9},
		{"1111000000", 9},
		{"00000", 5},
		{"000000", 5},
		{"000001", -1},
		{"x", 0},
		{"1é", 1},
		{"1111é", 4},
		{"0\xff", 1},
	} {
		for _, s := range longBits(1000) {
			told := stuffed(s) + "01"
			want := c.place
			if want >= 0 {
				want += len(told)
			}
			got, place := Unstuff(told + c.end)
			if place != want || want >= 0 && got != "" || want < 0 && stuffed(got) != told+c.end {
				t.Fatal(c.end, place, want)
			}
		}
	}
}

// P6.4
func TestBack(t *testing.T) {
	for _, s := range append(allBits(13), longBits(1000)...) {
		if got, place := Unstuff(Stuff(s)); got != s || place != -1 {
			t.Fatal(s, got, place)
		}
		if got, place := Unstuff(s); place < 0 && Stuff(got) != s {
			t.Fatal(s, got)
		}
	}
}

// P6.5
func TestShort(t *testing.T) {
	for _, s := range append(allBits(13), longBits(1000)...) {
		told := Stuff(s)
		if Run(told) > 5 || len(told) < len(s) || len(told)-len(s) > len(s)/4 {
			t.Fatal(s, told)
		}
	}
	// As long as it may be: the first one behind five, then one behind each four.
	if s := Stuff("1" + strings.Repeat("11110000", 100)); len(s) != 1001 {
		t.Error(len(s))
	}
}

// P6.6
func TestTurned(t *testing.T) {
	for _, s := range append(allBits(13), longBits(1000)...) {
		if Stuff(Turn(s)) != Turn(Stuff(s)) {
			t.Fatal(s)
		}
		bits, place := Unstuff(s)
		if got, at := Unstuff(Turn(s)); got != Turn(bits) || at != place {
			t.Fatal(s, got, at)
		}
	}
}

// P6.7
func TestAhead(t *testing.T) {
	for _, s := range append(allBits(12), longBits(300)...) {
		told := Stuff(s)
		for i := range len(s) {
			if !strings.HasPrefix(told, Stuff(s[:i])) {
				t.Fatal(s, i)
			}
		}
	}
}

// P1, P2: calls that are refused change nothing that a later one could tell.
func TestRefusedCallsChangeNothing(t *testing.T) {
	for range 2 {
		if s := Stuff("000001111"); s != "00000111110" {
			t.Fatal(s)
		}
		if s, place := Unstuff("00000111110"); s != "000001111" || place != -1 {
			t.Fatal(s, place)
		}
		if s := Turn("0011"); s != "1100" || !Right(s) || Run(s) != 2 {
			t.Fatal(s)
		}
		for s := range noBits() {
			Right(s)
			Run(s)
			Stuff(s)
			Unstuff(s)
			Turn(s)
		}
		Unstuff("11111")
		Unstuff("111111")
	}
}

// P1: all calls end, at all arguments, and hold together.
func FuzzCallsEnd(f *testing.F) {
	for s := range noBits() {
		f.Add(s)
	}
	for _, s := range longBits(30) {
		f.Add(s)
		f.Add(stuffed(s))
	}
	f.Fuzz(func(t *testing.T, s string) {
		if err := calls(s); err != nil {
			t.Error(err)
		}
	})
}

// calls tells what is wrong with the answers of all calls at s.
func calls(s string) error {
	is := isBits(s)
	told, turn := "", ""
	if is {
		told, turn = stuffed(s), turned(s)
	}
	if got := Right(s); got != is {
		return fmt.Errorf("Right of %q: %v", s, got)
	}
	if got := Stuff(s); got != told {
		return fmt.Errorf("Stuff of %q: %q", s, got)
	}
	if got := Turn(s); got != turn {
		return fmt.Errorf("Turn of %q: %q", s, got)
	}
	if got := Run(s); got < min(len(s), 1) || got > len(s) || len(s) < 100 && got != longestRun(s) {
		return fmt.Errorf("Run of %q: %d", s, got)
	}
	bits, place := Unstuff(s)
	if place < 0 && (place != -1 || stuffed(bits) != s) || place >= 0 && (bits != "" || place > len(s) || is && Run(s) < 5) {
		return fmt.Errorf("Unstuff of %q: %q, %d", s, bits, place)
	}
	if bits, place = Unstuff(told); is && (bits != s || place != -1) {
		return fmt.Errorf("Unstuff of %q: %q, %d", told, bits, place)
	}
	return nil
}
