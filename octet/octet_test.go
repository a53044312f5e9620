package octet

import (
	"math"
	"strings"
	"testing"
)

// words are numbers whose bytes are all unlike, and those at the edges.
func words() []uint32 {
	return []uint32{0, 1, 255, 256, 258, 0x01020304, 0x80000000, 0xDEADBEEF, math.MaxUint32}
}

// texts are all texts of up to three of a few bytes, and some that hold other runes.
func texts() []string {
	few := []string{"\x00", "\x0f", "\xa5", "\xff"}
	all := []string{"", "\xc3\xa9", "\xe2\x82", "abc\xffdefg"}
	last := []string{""}
	for range 3 {
		var next []string
		for _, s := range last {
			for _, b := range few {
				next = append(next, s+b)
			}
		}
		all = append(all, next...)
		last = next
	}
	return all
}

// P1.1
func TestPut(t *testing.T) {
	cases := []struct {
		n    uint32
		want string
	}{
		{0, "\x00\x00\x00\x00"},
		{1, "\x01\x00\x00\x00"},
		{258, "\x02\x01\x00\x00"},
		{0x01020304, "\x04\x03\x02\x01"},
		{0x80000000, "\x00\x00\x00\x80"},
		{math.MaxUint32, "\xff\xff\xff\xff"},
	}
	for _, c := range cases {
		if got := Put(c.n); got != c.want {
			t.Errorf("Put(%d) = %x, want %x", c.n, got, c.want)
		}
	}
}

// P1.1, P1
func TestGet(t *testing.T) {
	const text = "\x04\x03\x02\x01\xff\x80"
	cases := []struct {
		s    string
		at   int
		want uint32
		is   bool
	}{
		{text, 0, 0x01020304, true},
		{text, 1, 0xFF010203, true},
		{text, 2, 0x80FF0102, true},
		{text, 3, 0, false},
		{text, 5, 0, false},
		{text, 6, 0, false},
		{text, 7, 0, false},
		{text, -1, 0, false},
		{text, -4, 0, false},
		{text, math.MaxInt, 0, false},
		{text, math.MaxInt - 3, 0, false},
		{text, math.MinInt, 0, false},
		{"\x00\x00\x00\x00", 0, 0, true},
		{"\x01\x02\x03", 0, 0, false},
		{"\x01\x02\x03", -1, 0, false},
		{"", 0, 0, false},
		{"", -4, 0, false},
		{"", 1, 0, false},
	}
	for _, c := range cases {
		if got, is := Get(c.s, c.at); got != c.want || is != c.is {
			t.Errorf("Get(%x, %d) = %x, %v, want %x, %v", c.s, c.at, got, is, c.want, c.is)
		}
	}
}

// P1.2: what the runes are worth stands here one by one, to be told otherwise than by the program.
func TestDigit(t *testing.T) {
	worth := map[rune]int{
		'0': 0, '1': 1, '2': 2, '3': 3, '4': 4, '5': 5, '6': 6, '7': 7, '8': 8, '9': 9,
		'A': 10, 'B': 11, 'C': 12, 'D': 13, 'E': 14, 'F': 15,
		'a': 10, 'b': 11, 'c': 12, 'd': 13, 'e': 14, 'f': 15,
	}
	for r := rune(-300); r <= 0x110010; r++ {
		want, is := worth[r]
		if got, ok := Digit(r); got != want || ok != is {
			t.Fatalf("Digit(%d) = %d, %v, want %d, %v", r, got, ok, want, is)
		}
	}
	for _, r := range []rune{math.MinInt32, math.MaxInt32, math.MinInt32 + '7'} {
		if got, ok := Digit(r); got != 0 || ok {
			t.Errorf("Digit(%d) = %d, %v, want 0, false", r, got, ok)
		}
	}
}

// P1.2
func TestHex(t *testing.T) {
	cases := []struct{ s, want string }{
		{"", ""},
		{"\x00\xab", "00AB"},
		{"\xcd\xef", "CDEF"},
		{"\x01\x23\x45\x67\x89", "0123456789"},
		{"\x0f\xf0", "0FF0"},
		{"\xc3\xa9", "C3A9"},
	}
	for _, c := range cases {
		if got := Hex(c.s); got != c.want {
			t.Errorf("Hex(%x) = %q, want %q", c.s, got, c.want)
		}
	}
}

// P1.2
func TestUnhex(t *testing.T) {
	cases := []struct{ s, want string }{
		{"", ""},
		{"00AB", "\x00\xab"},
		{"00Ab", "\x00\xab"},
		{"cdefCDEF", "\xcd\xef\xcd\xef"},
		{"0123456789", "\x01\x23\x45\x67\x89"},
		{"fF0f", "\xff\x0f"},
	}
	for _, c := range cases {
		if got, is := Unhex(c.s); got != c.want || !is {
			t.Errorf("Unhex(%q) = %x, %v, want %x, true", c.s, got, is, c.want)
		}
	}
}

// P1.2, P1
func TestUnhexRefuses(t *testing.T) {
	wrong := []string{
		"0", "F", "000", "00AB0", "abc",
		"0G", "G0", "00 11", " 00", "00 ", "0x00", "-1", "+1", "0/", "0:", "0@", "0`", "0g",
		"é", "0é", "00é", "é0", "ab\xffc", "\xff\xff", "0\xc3", "00\x80", "\xef\xbf\xbd",
		"\uff10\uff11", "\u0660\u0661", "\x00\x00", "00\n",
	}
	for _, s := range wrong {
		if got, is := Unhex(s); got != "" || is {
			t.Errorf("Unhex(%q) = %x, %v, want none", s, got, is)
		}
	}
}

// P1.3
func TestMask(t *testing.T) {
	cases := []struct{ s, mask, want string }{
		{"", "", ""},
		{"", "\xff\xff", ""},
		{"\x12\x34", "", "\x00\x00"},
		{"\x12\x34", "\xff", "\x12\x00"},
		{"\x12\x34", "\xff\xff", "\x12\x34"},
		{"\x12\x34", "\xff\xff\xff", "\x12\x34"},
		{"\x12\x34", "\xf0\x0f", "\x10\x04"},
		{"\xff\xff\xff", "\x01\x00\x80", "\x01\x00\x80"},
		{"\xc3\xa9", "\xff\x0f", "\xc3\x09"},
		{"\x00", "\xff", "\x00"},
	}
	for _, c := range cases {
		if got := Mask(c.s, c.mask); got != c.want {
			t.Errorf("Mask(%x, %x) = %x, want %x", c.s, c.mask, got, c.want)
		}
	}
}

// P1.3
func TestDiffer(t *testing.T) {
	cases := []struct {
		a, b, mask string
		want       bool
	}{
		{"", "", "", false},
		{"", "", "\xff", false},
		{"", "\x00", "", true},
		{"\x00", "", "\xff", true},
		{"\x12", "\x12\x00", "\xff\xff", true},
		{"\x12\x34", "\x12", "\xff", true},
		{"\x12\x34", "\x12\x34", "\xff\xff", false},
		{"\x12\x34", "\x12\x35", "\xff\xff", true},
		{"\x12\x34", "\x13\x34", "\xff\xff", true},
		{"\x12\x34", "\x12\x35", "\xff\xfe", false},
		{"\x12\x34", "\x12\x35", "\xff", false},
		{"\x12\x34", "\x13\x35", "", false},
		{"\x12\x34", "\x12\xb4", "\x00\x80", true},
	}
	for _, c := range cases {
		if got := Differ(c.a, c.b, c.mask); got != c.want {
			t.Errorf("Differ(%x, %x, %x) = %v, want %v", c.a, c.b, c.mask, got, c.want)
		}
	}
}

// P1.3: Differ is what the Masks say, at all texts and masks of a few.
func TestDifferByMask(t *testing.T) {
	all := texts()
	for _, a := range all {
		for _, b := range all {
			for _, mask := range all {
				want := len(a) != len(b) || Mask(a, mask) != Mask(b, mask)
				if got := Differ(a, b, mask); got != want {
					t.Fatalf("Differ(%x, %x, %x) = %v, want %v", a, b, mask, got, want)
				}
			}
		}
	}
}

// P1.3
func TestOnes(t *testing.T) {
	cases := []struct {
		s    string
		want int
	}{
		{"", 0},
		{"\x00", 0},
		{"\x00\x00\x00", 0},
		{"\x01", 1},
		{"\x80", 1},
		{"\xa5", 4},
		{"\xff", 8},
		{"\xff\x00\x01", 9},
		{"\xc3\xa9", 8},
		{strings.Repeat("\xff", 1000), 8000},
	}
	for _, c := range cases {
		if got := Ones(c.s); got != c.want {
			t.Errorf("Ones(%x) = %d, want %d", c.s, got, c.want)
		}
	}
	for b := range 256 {
		want := 0
		for i := range 8 {
			want += b >> i & 1
		}
		if got := Ones(string([]byte{byte(b)})); got != want {
			t.Errorf("Ones of byte %x = %d, want %d", b, got, want)
		}
	}
}

// P1.4
func TestGetLeadsBackFromPut(t *testing.T) {
	for _, n := range words() {
		for _, ahead := range []string{"", "\xff", "abc"} {
			if got, is := Get(ahead+Put(n)+"\xff", len(ahead)); got != n || !is {
				t.Errorf("Get of Put(%d) behind %q = %d, %v", n, ahead, got, is)
			}
		}
	}
}

// P1.4
func TestUnhexLeadsBackFromHex(t *testing.T) {
	all := texts()
	for b := range 256 {
		all = append(all, string([]byte{byte(b)}))
	}
	for _, s := range all {
		if got, is := Unhex(Hex(s)); got != s || !is {
			t.Errorf("Unhex of Hex(%x) = %x, %v", s, got, is)
		}
	}
}

// P1.4: what Unhex takes, of all texts of up to four of a few runes, is Hex of it but for small letters.
func TestHexLeadsBackFromUnhex(t *testing.T) {
	few := []string{"0", "9", "A", "F", "a", "f", "G", "/", "é", "\xff"}
	last := []string{""}
	for range 4 {
		var next []string
		for _, s := range last {
			for _, r := range few {
				next = append(next, s+r)
			}
		}
		for _, s := range next {
			wellFormed := len(s)%2 == 0 && !strings.ContainsAny(s, "G/é") && !strings.Contains(s, "\xff")
			got, is := Unhex(s)
			if is != wellFormed {
				t.Fatalf("Unhex(%q) = %x, %v", s, got, is)
			}
			if is && Hex(got) != strings.ToUpper(s) {
				t.Fatalf("Hex of Unhex(%q) = %q", s, Hex(got))
			}
		}
		last = next
	}
}

// P1.5
func TestMaskAgain(t *testing.T) {
	all := texts()
	for _, s := range all {
		for _, one := range all {
			once := Mask(s, one)
			if got := Mask(once, one); got != once {
				t.Fatalf("Mask(%x, %x) again = %x, want %x", s, one, got, once)
			}
			for _, two := range all {
				both := Mask(one, two)
				if got, want := Mask(once, two), Mask(s, both); got != want {
					t.Fatalf("%x by %x, then %x = %x, want %x", s, one, two, got, want)
				}
			}
		}
	}
}

// P1.5
func TestDifferIsAnEquivalencesOtherSide(t *testing.T) {
	all := texts()
	for _, mask := range []string{"", "\xff", "\x0f\xf0", "\xff\xff\xff", "\x80\x00\x01\xff"} {
		for _, a := range all {
			if Differ(a, a, mask) {
				t.Fatalf("%x differs from itself by %x", a, mask)
			}
			for _, b := range all {
				if Differ(a, b, mask) != Differ(b, a, mask) {
					t.Fatalf("%x and %x differ one way by %x", a, b, mask)
				}
				if Differ(a, b, mask) {
					continue
				}
				for _, c := range all {
					if !Differ(b, c, mask) && Differ(a, c, mask) {
						t.Fatalf("%x, %x, %x are not alike by %x", a, b, c, mask)
					}
				}
			}
		}
	}
}

// P1, P2: a refused call leaves what later calls answer as it was.
func TestRefusedCallsChangeNothing(t *testing.T) {
	const text = "00Ab"
	for range 2 {
		if got, is := Unhex(text); got != "\x00\xab" || !is {
			t.Fatal(got, is)
		}
		if got, is := Get(text, 0); got != 0x62413030 || !is {
			t.Fatal(got, is)
		}
		if got, is := Digit('b'); got != 11 || !is {
			t.Fatal(got, is)
		}
		Unhex(text + "0")
		Unhex(text + "é")
		Get(text, 1)
		Get(text, -1)
		Digit('g')
	}
}

// P1: every call ends and none panics, whatever texts and places it is given.
func FuzzCallsEnd(f *testing.F) {
	f.Add("", "", "", 0, int32(0))
	f.Add("00AB", "\xff", "é\xff", -1, int32('f'))
	f.Fuzz(func(t *testing.T, a, b, mask string, at int, r int32) {
		if n, is := Get(a, at); is && a[at:at+wordSize] != Put(n) || !is && n != 0 {
			t.Error("Get", n, is)
		}
		if n, is := Digit(r); !is && n != 0 || n > 15 || n < 0 {
			t.Error("Digit", n, is)
		}
		if s, is := Unhex(a); is && Hex(s) != strings.ToUpper(a) || !is && s != "" {
			t.Error("Unhex", s, is)
		}
		if s, is := Unhex(Hex(a)); s != a || !is {
			t.Error("Hex", s, is)
		}
		if len(Mask(a, mask)) != len(a) || Ones(Mask(a, mask)) > Ones(a) {
			t.Error("Mask")
		}
		if Differ(a, b, mask) != (len(a) != len(b) || Mask(a, mask) != Mask(b, mask)) {
			t.Error("Differ")
		}
	})
}
