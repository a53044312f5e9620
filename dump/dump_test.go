package dump

import (
	"fmt"
	"math"
	"regexp"
	"slices"
	"strconv"
	"strings"
	"testing"

	"signalbox/api"
	"signalbox/frame"
)

// text is n bytes, the first ones unlike each other.
func text(n int) string {
	out := make([]byte, n)
	for i := range out {
		out[i] = byte(255 - 7*i)
	}
	return string(out)
}

// frames are frames that may be: all flags, all lengths, IDs at the edges of both widths.
func frames() []api.Frame {
	var all []api.Frame
	for flags := range 64 {
		for _, id := range []int{0, 1, 15, 16, 255, 256, 291, 2047, 2048, 4095, 4096, 0x01ABCDEF, 1 << 28, api.Wide} {
			for n := range 65 {
				f := api.Frame{ID: id, Flags: flags, Len: n, Data: text(n)}
				if flags&api.Rtr != 0 {
					f.Data = ""
				}
				if frame.Right(f) == api.OK {
					all = append(all, f)
				}
			}
		}
	}
	return all
}

// told are some frames, of each kind one, and their texts.
func told() []struct {
	f api.Frame
	s string
} {
	return []struct {
		f api.Frame
		s string
	}{
		{api.Frame{}, "000#"},
		{api.Frame{ID: 291, Len: 4, Data: "\xde\xad\xbe\xef"}, "123#DEADBEEF"},
		{api.Frame{ID: 291}, "123#"},
		{api.Frame{ID: 10, Len: 1, Data: "\x0a"}, "00A#0A"},
		{api.Frame{ID: 2047, Len: 8, Data: "\x00\x11\x22\x33\x44\x55\x66\x77"}, "7FF#0011223344556677"},
		{api.Frame{ID: 5, Len: 4, Data: "\xc3\xa9\x23\x2e"}, "005#C3A9232E"},
		{api.Frame{Flags: api.Ext}, "00000000#"},
		{api.Frame{ID: 291, Flags: api.Ext, Len: 1, Data: "\xff"}, "00000123#FF"},
		{api.Frame{ID: 2048, Flags: api.Ext}, "00000800#"},
		{api.Frame{ID: 0x01ABCDEF, Flags: api.Ext, Len: 2, Data: "\x00\x00"}, "01ABCDEF#0000"},
		{api.Frame{ID: api.Wide, Flags: api.Ext}, "1FFFFFFF#"},
		{api.Frame{ID: 291, Flags: api.Rtr}, "123#R"},
		{api.Frame{ID: 291, Flags: api.Rtr, Len: 1}, "123#R1"},
		{api.Frame{ID: 291, Flags: api.Ext | api.Rtr, Len: 8}, "00000123#R8"},
		{api.Frame{ID: api.Wide, Flags: api.Ext | api.Rtr}, "1FFFFFFF#R"},
		{api.Frame{Flags: api.Err, Len: 8, Data: "\x00\x00\x00\x00\x00\x00\x00\x00"}, "20000000#0000000000000000"},
		{api.Frame{ID: 0x4A, Flags: api.Err, Len: 8, Data: "abcdefgh"}, "2000004A#6162636465666768"},
		{api.Frame{ID: api.Wide, Flags: api.Err, Len: 8, Data: "abcdefgh"}, "3FFFFFFF#6162636465666768"},
		{api.Frame{ID: 291, Flags: api.Fd}, "123##0"},
		{api.Frame{ID: 291, Flags: api.Fd | api.Brs, Len: 2, Data: "\xaa\xbb"}, "123##1AABB"},
		{api.Frame{ID: 291, Flags: api.Fd | api.Esi, Len: 1, Data: "\x03"}, "123##203"},
		{api.Frame{ID: 291, Flags: api.Fd | api.Brs | api.Esi}, "123##3"},
		{api.Frame{ID: 2047, Flags: api.Fd | api.Ext | api.Brs | api.Esi, Len: 12, Data: "abcdefghijkl"}, "000007FF##36162636465666768696A6B6C"},
		{api.Frame{ID: api.Wide, Flags: api.Fd | api.Ext, Len: 64, Data: strings.Repeat("\x5a", 64)}, "1FFFFFFF##0" + strings.Repeat("5A", 64)},
	}
}

// wrongFrames are some that may not be.
func wrongFrames() []api.Frame {
	return []api.Frame{
		{ID: -1},
		{ID: 2048},
		{ID: 1 << 29, Flags: api.Ext},
		{ID: 1<<32 + 1, Len: 1, Data: "A"},
		{ID: math.MinInt},
		{ID: math.MaxInt, Flags: api.Ext},
		{Len: 1},
		{Len: -1},
		{Data: "A"},
		{Len: math.MaxInt},
		{Len: math.MinInt},
		{Len: 9, Data: text(9)},
		{Len: 8, Data: text(9)},
		{Flags: api.Rtr, Len: 1, Data: "A"},
		{Flags: api.Rtr, Len: 9},
		{Flags: api.Rtr, Len: -1},
		{Flags: api.Err},
		{Flags: api.Err, Len: 7, Data: text(7)},
		{ID: 1 << 29, Flags: api.Err, Len: 8, Data: text(8)},
		{Flags: api.Err | api.Ext, Len: 8, Data: text(8)},
		{Flags: api.Err | api.Rtr, Len: 8},
		{Flags: api.Err | api.Fd, Len: 8, Data: text(8)},
		{Flags: api.Fd | api.Rtr},
		{Flags: api.Fd, Len: 9, Data: text(9)},
		{Flags: api.Fd, Len: 65, Data: text(65)},
		{Flags: api.Fd, Len: 12, Data: text(11)},
		{Flags: api.Brs},
		{Flags: api.Esi, Len: 1, Data: "A"},
		{Flags: api.Each},
		{Flags: 64},
		{Flags: -1},
		{Flags: math.MinInt},
	}
}

// textOf is a frame's text as the chapter lists it, to be told otherwise than by the program.
func textOf(f api.Frame) string {
	s := fmt.Sprintf("%03X#", f.ID)
	switch {
	case f.Flags&4 != 0:
		s = fmt.Sprintf("%08X#", f.ID+0x20000000)
	case f.Flags&1 != 0:
		s = fmt.Sprintf("%08X#", f.ID)
	}
	if f.Flags&8 != 0 {
		s += fmt.Sprintf("#%d", f.Flags>>4)
	}
	if f.Flags&2 != 0 {
		return strings.TrimSuffix(fmt.Sprintf("%sR%d", s, f.Len), "0")
	}
	return s + fmt.Sprintf("%X", f.Data)
}

// The shapes of a text that may be read, and of a line; whether the frame may be is asked of Right.
var (
	looseText  = regexp.MustCompile(`^([0-9A-Fa-f]{3}|[0-9A-Fa-f]{8})#(?:([Rr])([1-8]?)|(?:#([0-3]))?((?:[0-9A-Fa-f]{2}(?:\.?[0-9A-Fa-f]{2})*)?))$`)
	strictLine = regexp.MustCompile(`^\((0|[1-9][0-9]*)\) n(0|[1-9][0-9]*) ([0-9A-FR#]+)\n$`)
)

// frameOf is the frame whose text this is, and true, found by the texts' shape.
func frameOf(s string) (api.Frame, bool) {
	part := looseText.FindStringSubmatch(s)
	if part == nil {
		return api.Frame{}, false
	}
	id, _ := strconv.ParseInt(part[1], 16, 64)
	f := api.Frame{ID: int(id)}
	switch {
	case len(part[1]) == 8 && id >= 0x20000000:
		f.ID, f.Flags = int(id)-0x20000000, 4
	case len(part[1]) == 8:
		f.Flags = 1
	}
	if part[2] != "" {
		f.Flags |= 2
		f.Len, _ = strconv.Atoi("0" + part[3])
	} else {
		digits := strings.ReplaceAll(part[5], ".", "")
		fmt.Sscanf(digits, "%x", &f.Data)
		f.Len = len(f.Data)
	}
	if part[4] != "" {
		marks, _ := strconv.Atoi(part[4])
		f.Flags |= 8 + 16*marks
	}
	if frame.Right(f) != api.OK {
		return api.Frame{}, false
	}
	return f, true
}

// reads holds what Read answers against frameOf.
func reads(t *testing.T, s string) {
	t.Helper()
	want, is := frameOf(s)
	wantErr := api.OK
	if !is {
		wantErr = api.ErrForm
	}
	if got, err := Read(s); got != want || err != wantErr {
		t.Fatalf("Read(%q) = %+v, %d, want %+v, %d", s, got, err, want, wantErr)
	}
}

// P4.1
func TestTell(t *testing.T) {
	for _, c := range told() {
		if got, err := Tell(c.f); got != c.s || err != api.OK {
			t.Errorf("Tell(%+v) = %q, %d, want %q", c.f, got, err, c.s)
		}
	}
	for _, f := range frames() {
		if got, err := Tell(f); got != textOf(f) || err != api.OK {
			t.Fatalf("Tell(%+v) = %q, %d, want %q", f, got, err, textOf(f))
		}
	}
}

// P4.1, P1
func TestTellRefuses(t *testing.T) {
	for _, f := range wrongFrames() {
		if got, err := Tell(f); got != "" || err != api.ErrFrame {
			t.Errorf("Tell(%+v) = %q, %d", f, got, err)
		}
	}
}

// P4.2
func TestRead(t *testing.T) {
	for _, c := range told() {
		if got, err := Read(c.s); got != c.f || err != api.OK {
			t.Errorf("Read(%q) = %+v, %d, want %+v", c.s, got, err, c.f)
		}
	}
}

// P4.2
func TestReadSmallAndDotted(t *testing.T) {
	cases := []struct {
		s    string
		want api.Frame
	}{
		{"123#deadbeef", api.Frame{ID: 291, Len: 4, Data: "\xde\xad\xbe\xef"}},
		{"123#dEaDBeeF", api.Frame{ID: 291, Len: 4, Data: "\xde\xad\xbe\xef"}},
		{"7fF#", api.Frame{ID: 2047}},
		{"1ffffFFF#", api.Frame{ID: api.Wide, Flags: api.Ext}},
		{"2000004a#6162636465666768", api.Frame{ID: 0x4A, Flags: api.Err, Len: 8, Data: "abcdefgh"}},
		{"2000004a#61.62.63.64.65.66.67.68", api.Frame{ID: 0x4A, Flags: api.Err, Len: 8, Data: "abcdefgh"}},
		{"123#r", api.Frame{ID: 291, Flags: api.Rtr}},
		{"00000abc#r8", api.Frame{ID: 0xABC, Flags: api.Ext | api.Rtr, Len: 8}},
		{"123#DE.AD.BE.EF", api.Frame{ID: 291, Len: 4, Data: "\xde\xad\xbe\xef"}},
		{"123#DEAD.BEEF", api.Frame{ID: 291, Len: 4, Data: "\xde\xad\xbe\xef"}},
		{"123#de.ADBE.ef", api.Frame{ID: 291, Len: 4, Data: "\xde\xad\xbe\xef"}},
		{"123##1aa.BB", api.Frame{ID: 291, Flags: api.Fd | api.Brs, Len: 2, Data: "\xaa\xbb"}},
		{"123##061.62.63.64.65.66.67.68.69.6a.6B.6c", api.Frame{ID: 291, Flags: api.Fd, Len: 12, Data: "abcdefghijkl"}},
	}
	for _, c := range cases {
		if got, err := Read(c.s); got != c.want || err != api.OK {
			t.Errorf("Read(%q) = %+v, %d, want %+v", c.s, got, err, c.want)
		}
	}
}

// wrongTexts are those of no frame.
func wrongTexts() []string {
	return []string{
		"", "#", "##", "##0", "R", "#R", ".", "1", "123", "00000123", "123R", "12300", "\n",
		"1#", "12#", "1234#", "12345#", "0000123#", "000000123#", "0000000000000123#", "#123#", // as many digits as none has
		"12G#", "G23#", "12g#", " 123#", "123 #", "12 #", "-12#", "+12#", "0x1#", "1_2#", "12.#", "1.2#", "12é#", "é2#", "é#", "\xff23#", "0000012G#", "é00000#", "\uff11\uff12\uff13#",
		"0000_123#", "0x000123#", "-0000123#",
		"800#", "FFF#", "fff#", "40000000#", "80000000#", "80000123#", "A0000004#6162636465666768", "60000004#6162636465666768", "FFFFFFFF#", "C0000123#R",
		"123#1", "123#123", "123#DEADBEE", "123#G1", "123#1G", "123#0g", "123# 11", "123#11 ", "123#11\n", "123#11\x00", "123#-1", "123#0x11", "123#é", "123#1é", "123#\xff\xff", "123#11\xff", "123#\uff11\uff12",
		"123#001122334455667788", "00000123#001122334455667788",
		"123#.", "123#..", "123#.11", "123#11.", "123#11..22", "123#1.1", "123#1.122", "123#11.2", "123#11.2.2", "123#11,22", "123#11 22", "123#11.22.", "123#.11.22", "123#11.22..33", "123#112.233",
		"123#R0", "123#r0", "123#R9", "123#RA", "123#Ra", "123#R10", "123#R08", "123#R88", "123#R ", "123# R", "123#R8 ", "123#R-1", "123#R+1", "123#R.8", "123#R8.", "123#.R", "123#RR", "123#Rr", "123#8R", "123#11R", "123#R11", "123#R\n", "123#R\u0661", "123#Ré", "123#R\xff",
		"123##", "123###", "123##4", "123##5AA", "123##8", "123##F", "123##G", "123##.", "123##é", "123##\xff", "123## 1", "123## ", "123##-1", "123##R", "123##1R", "123##R8", "123##1#", "123##1##", "123#1#", "123# #1", "123#.#1",
		"123##1A", "123##1AAB", "123##1.AA", "123##1AA.", "123##1AA..BB", "123##1A.ABB", "123##.1AA", "123##1" + strings.Repeat("AA", 9), "123##1" + strings.Repeat("AA", 63), "123##1" + strings.Repeat("AA", 65), "123##1" + strings.Repeat("AA", 320), "123##1" + strings.Repeat("AA", 1<<16),
		"800##0", "20000004##06162636465666768", "20000004##0",
		"20000004#", "20000004#61626364656667", "20000004#616263646566676869", "20000004#R", "20000004#R8", "3FFFFFFF#r8",
		"123#11#", "123#11#22", "123#123#", "123\n#", "(7) n2 123#\n", "123#\n", " 123#11", "123#11 ", "123;11",
		strings.Repeat("0", 1<<16), strings.Repeat("#", 1<<16), strings.Repeat(".", 1<<16), "123#" + strings.Repeat("1", 1<<16), strings.Repeat("0", 1<<16) + "#",
	}
}

// P4.2, P1
func TestReadRefuses(t *testing.T) {
	for _, s := range wrongTexts() {
		if got, err := Read(s); got != (api.Frame{}) || err != api.ErrForm {
			t.Errorf("Read(%q) = %+v, %d", s, got, err)
		}
	}
}

// P4.2: of some frames' texts each byte is turned into each other one, put in behind each, and left out.
func TestReadTurned(t *testing.T) {
	for _, c := range told() {
		for i := range len(c.s) {
			reads(t, c.s[:i]+c.s[i+1:])
			reads(t, c.s[:i])
			reads(t, c.s[i:])
			for b := range 256 {
				more := string([]byte{byte(b)})
				reads(t, c.s[:i]+more+c.s[i+1:])
				reads(t, c.s[:i]+more+c.s[i:])
				reads(t, c.s+more)
			}
		}
	}
}

// P4.2: all texts of up to six of a few runes behind some identifiers.
func TestReadBodies(t *testing.T) {
	few := []string{"0", "3", "a", "R", ".", "#", "é"}
	last := []string{""}
	for range 6 {
		var next []string
		for _, s := range last {
			for _, r := range few {
				next = append(next, s+r)
			}
		}
		for _, s := range next {
			reads(t, "123#"+s)
			reads(t, "1fffffff#"+s)
			reads(t, s)
			reads(t, s+"#00")
		}
		last = next
	}
}

// P4.2: all identifiers of three digits, and those of eight whose highest digits are each.
func TestReadIdentifiers(t *testing.T) {
	for n := range 1 << 12 {
		s := fmt.Sprintf("%03x#", n)
		want := api.OK
		if n > 2047 {
			want = api.ErrForm
		}
		if got, err := Read(s); err != want || err == api.OK && got != (api.Frame{ID: n}) {
			t.Fatalf("Read(%q) = %+v, %d", s, got, err)
		}
	}
	for n := range 1 << 10 {
		for _, low := range []string{"000000", "00000a", "ffffff"} {
			head := fmt.Sprintf("%02X%s", n, low)
			reads(t, head+"#")
			reads(t, head+"#0011223344556677")
			reads(t, head+"#r8")
			reads(t, head+"##2")
		}
	}
}

// entries are entries with lines, of each kind one, and their lines.
func entries() ([]api.Entry, []string) {
	var all []api.Entry
	var lines []string
	numbers := []int{0, 1, 9, 10, 31, 32, 100, 1 << 31, 1 << 40, math.MaxInt - 1, math.MaxInt}
	for i, c := range told() {
		n := api.Entry{Frame: c.f, Node: numbers[i%len(numbers)], Slot: numbers[i*3%len(numbers)]}
		all = append(all, n)
		lines = append(lines, fmt.Sprintf("(%d) n%d %s\n", n.Slot, n.Node, c.s))
	}
	return all, lines
}

// P4.3
func TestLine(t *testing.T) {
	one := api.Entry{Frame: api.Frame{ID: 291}, Node: 2, Slot: 7}
	if got, err := Line(one); got != "(7) n2 123#\n" || err != api.OK {
		t.Errorf("Line(%+v) = %q, %d", one, got, err)
	}
	if got, err := Line(api.Entry{}); got != "(0) n0 000#\n" || err != api.OK {
		t.Errorf("Line of nothing = %q, %d", got, err)
	}
	all, lines := entries()
	for i, n := range all {
		if got, err := Line(n); got != lines[i] || err != api.OK {
			t.Errorf("Line(%+v) = %q, %d, want %q", n, got, err, lines[i])
		}
	}
}

// P4.3, P1: of a frame that may not be and a number below 0 the frame is told.
func TestLineRefuses(t *testing.T) {
	for _, f := range wrongFrames() {
		for _, number := range []int{0, -1, math.MinInt, 7} {
			n := api.Entry{Frame: f, Node: number, Slot: number}
			if got, err := Line(n); got != "" || err != api.ErrFrame {
				t.Errorf("Line(%+v) = %q, %d", n, got, err)
			}
		}
	}
	for _, below := range []int{-1, -7, math.MinInt} {
		for _, n := range []api.Entry{{Node: below}, {Slot: below}, {Node: below, Slot: below}, {Node: 7, Slot: below}, {Node: below, Slot: 7}} {
			if got, err := Line(n); got != "" || err != api.ErrArg {
				t.Errorf("Line(%+v) = %q, %d", n, got, err)
			}
		}
	}
}

// wrongEntries are some that have no line.
func wrongEntries() []api.Entry {
	all := []api.Entry{{Node: -1}, {Slot: -1}, {Node: math.MinInt, Slot: 3}}
	for _, f := range wrongFrames() {
		all = append(all, api.Entry{Frame: f, Node: 2, Slot: 7})
	}
	return all
}

// P4.3
func TestLines(t *testing.T) {
	if got := Lines(); got != "" {
		t.Error(got)
	}
	if got := Lines([]api.Entry{}...); got != "" {
		t.Error(got)
	}
	all, lines := entries()
	for n := range all {
		l := slices.Clone(all[:n+1])
		if got, want := Lines(l...), strings.Join(lines[:n+1], ""); got != want {
			t.Errorf("Lines(%+v) = %q, want %q", l, got, want)
		}
		if !slices.Equal(l, all[:n+1]) {
			t.Errorf("Lines has changed what it was given: %+v", l)
		}
	}
	if got, want := Lines(all[0], all[1], all[0]), lines[0]+lines[1]+lines[0]; got != want {
		t.Errorf("Lines = %q, want %q", got, want)
	}
}

// P4.3: what has no line is passed over, wherever it stands.
func TestLinesPassOver(t *testing.T) {
	all, lines := entries()
	want := strings.Join(lines[:3], "")
	for _, wrong := range wrongEntries() {
		if got := Lines(wrong); got != "" {
			t.Errorf("Lines(%+v) = %q", wrong, got)
		}
		for n := range 4 {
			l := slices.Insert(slices.Clone(all[:3]), n, wrong, wrong)
			if got := Lines(l...); got != want {
				t.Errorf("Lines(%+v) = %q, want %q", l, got, want)
			}
		}
	}
}

// P4.4
func TestParse(t *testing.T) {
	if got, at := Parse(""); len(got) != 0 || at != -1 {
		t.Error(got, at)
	}
	if got, at := Parse("(7) n2 123#\n"); !slices.Equal(got, []api.Entry{{Frame: api.Frame{ID: 291}, Node: 2, Slot: 7}}) || at != -1 {
		t.Error(got, at)
	}
	all, lines := entries()
	s := ""
	for i, line := range lines {
		s += line
		if got, at := Parse(s); !slices.Equal(got, all[:i+1]) || at != -1 {
			t.Errorf("Parse(%q) = %+v, %d", s, got, at)
		}
	}
}

// wrongLines are those of no entry, each ended.
func wrongLines() []string {
	all := []string{
		"", " ", "x", "#", "()", "(", ")", "n", "(7)", "(7) ", "(7) n2", "(7) n2 ",
		"7) n2 123#", "(7 n2 123#", "7 n2 123#", "(7) 2 123#", "(7) n 123#", "() n2 123#", "( ) n2 123#", "[7] n2 123#", "(7) n2", "(7)", "n2 123#", "123#",
		"(7)n2 123#", "(7)  n2 123#", " (7) n2 123#", "(7) n2  123#", "(7) n2 123# ", "(7) n 2 123#", "(7 ) n2 123#", "( 7) n2 123#", "(7) n2123#", "(7)\tn2 123#", "(7) n2\t123#", "(7) n2 123#\r", "(7) n2 123#\x00", "x(7) n2 123#", "(7)x n2 123#", "(7) xn2 123#", "(7) n2 x123#", "((7) n2 123#", "(7)) n2 123#", "(7) nn2 123#", "(7) N2 123#",
		"(07) n2 123#", "(00) n2 123#", "(7) n02 123#", "(7) n00 123#", "(+7) n2 123#", "(-7) n2 123#", "(-0) n2 123#", "(7) n+2 123#", "(7) n-2 123#", "(7) n-0 123#", "(7.0) n2 123#", "(0x7) n2 123#", "(1_0) n2 123#", "(7) n1_0 123#", "(A) n2 123#", "(7) nA 123#", "(é) n2 123#", "(\u0667) n2 123#", "(7) n\xff 123#", "(7\xff) n2 123#",
		"(9223372036854775808) n2 123#", "(7) n9223372036854775808 123#", "(18446744073709551623) n2 123#", "(7) n18446744073709551618 123#", "(" + strings.Repeat("9", 1<<12) + ") n2 123#", "(" + strings.Repeat("0", 1<<12) + "7) n2 123#",
		"(7) n2 123#aa", "(7) n2 123#AA.BB", "(7) n2 123#r", "(7) n2 123#r8", "(7) n2 7ff#", "(7) n2 1fffffff#", "(7) n2 123##1aa", "(7) n2 123##1AA.BB", // what Read takes, and Tell does not tell
		"(7) n2 123# (7) n2 123#", "(7) n2 123#(7) n2 123#", "(7) n2\x00 123#",
	}
	for _, s := range wrongTexts() {
		if len(s) < 1000 && !strings.Contains(s, "\n") {
			all = append(all, "(7) n2 "+s)
		}
	}
	for i := range all {
		all[i] += "\n"
	}
	return all
}

// parseRefuses asks for the number of the line where Parse can't go on.
func parseRefuses(t *testing.T, s string, number int) {
	t.Helper()
	if got, at := Parse(s); len(got) != 0 || at != number {
		t.Errorf("Parse(%q) = %+v, %d, want the line %d", s, got, at, number)
	}
}

// P4.4, P1: the first line that is none is told, wherever it stands and whatever stands behind it.
func TestParseRefuses(t *testing.T) {
	_, lines := entries()
	for _, wrong := range wrongLines() {
		parseRefuses(t, wrong, 0)
		parseRefuses(t, wrong+lines[1], 0)
		parseRefuses(t, wrong+wrong, 0)
		parseRefuses(t, lines[1]+wrong, 1)
		parseRefuses(t, lines[1]+lines[1]+wrong+lines[1]+wrong, 2)
		parseRefuses(t, strings.Join(lines, "")+wrong+"x", len(lines))
	}
	parseRefuses(t, "\n", 0)
	parseRefuses(t, lines[0]+"\n"+lines[1], 1)
	parseRefuses(t, lines[0]+"\n", 1)
}

// P4.4: the last line must be ended, too.
func TestParseUnended(t *testing.T) {
	_, lines := entries()
	for _, line := range lines {
		for n := 1; n < len(line); n++ {
			parseRefuses(t, line[:n], 0)
			parseRefuses(t, line+line[:n], 1)
			parseRefuses(t, lines[0]+lines[1]+line+line[:n], 3)
		}
	}
	parseRefuses(t, "(7) n2 123#", 0)
	parseRefuses(t, "(7) n2 123#\r", 0)
	parseRefuses(t, "x", 0)
}

// entriesOf is the entries whose lines these are, and -1; or none, and the number of the first line that is none, by the lines' shape.
func entriesOf(s string) ([]api.Entry, int) {
	var all []api.Entry
	for _, line := range strings.SplitAfter(s, "\n") {
		if line == "" {
			break
		}
		part := strictLine.FindStringSubmatch(line)
		if part == nil {
			return nil, len(all)
		}
		slot, slotErr := strconv.ParseInt(part[1], 10, 64)
		node, nodeErr := strconv.ParseInt(part[2], 10, 64)
		f, is := frameOf(part[3])
		if !is || slotErr != nil || nodeErr != nil {
			return nil, len(all)
		}
		all = append(all, api.Entry{Frame: f, Node: int(node), Slot: int(slot)})
	}
	return all, -1
}

// parses holds what Parse answers against entriesOf.
func parses(t *testing.T, s string) {
	t.Helper()
	want, number := entriesOf(s)
	if got, at := Parse(s); !slices.Equal(got, want) || at != number {
		t.Fatalf("Parse(%q) = %+v, %d, want %+v, %d", s, got, at, want, number)
	}
}

// P4.4: of some lines each byte is turned into each other one, put in ahead of each, and left out.
func TestParseTurned(t *testing.T) {
	_, lines := entries()
	for _, line := range lines {
		s := lines[1] + line + lines[2]
		for i := range len(s) {
			parses(t, s[:i])
			parses(t, s[i:])
			parses(t, s[:i]+s[i+1:])
			for b := range 256 {
				more := string([]byte{byte(b)})
				parses(t, s[:i]+more+s[i+1:])
				parses(t, s[:i]+more+s[i:])
			}
		}
	}
}

// P4.5
func TestReadLeadsBackFromTell(t *testing.T) {
	for _, f := range frames() {
		s, _ := Tell(f)
		if got, err := Read(s); got != f || err != api.OK {
			t.Fatalf("Read of Tell(%+v) = %+v, %d", f, got, err)
		}
		if got, err := Read(strings.ToLower(s)); got != f || err != api.OK {
			t.Fatalf("Read(%q) = %+v, %d, want %+v", strings.ToLower(s), got, err, f)
		}
	}
}

// P4.5
func TestParseLeadsBackFromLines(t *testing.T) {
	var all []api.Entry
	for i, f := range frames() {
		all = append(all, api.Entry{Frame: f, Node: i % 40, Slot: i * i})
	}
	s := Lines(all...)
	got, at := Parse(s)
	if !slices.Equal(got, all) || at != -1 {
		t.Fatalf("Parse of Lines of %d entries = %d entries, %d", len(all), len(got), at)
	}
	if back := Lines(got...); back != s {
		t.Fatalf("Lines of Parse of %d bytes = %d bytes", len(s), len(back))
	}
	with := append(slices.Clone(all), wrongEntries()...)
	if got, at := Parse(Lines(with...)); !slices.Equal(got, all) || at != -1 {
		t.Fatalf("Parse of Lines, some without = %d entries, %d", len(got), at)
	}
}

// P4.5: what Read takes, dotted in all ways or not, is Tell of it, but for dots and small letters.
func TestTellLeadsBackFromRead(t *testing.T) {
	for _, data := range []string{"", "aB", "aBcD", "aBcDeF", "aBcDeF01"} {
		for _, head := range []string{"7fF#", "1abcDEF0#", "7Ff##0", "00000000##3"} {
			for cuts := range 1 << (len(data) + 1) {
				s := head
				for i := range len(data) + 1 {
					if cuts>>i&1 != 0 {
						s += "."
					}
					s += data[i:min(i+1, len(data))]
				}
				reads(t, s)
				f, err := Read(s)
				if back, _ := Tell(f); err == api.OK && back != strings.ToUpper(strings.ReplaceAll(s, ".", "")) {
					t.Fatalf("Tell of Read(%q) = %q", s, back)
				}
			}
		}
	}
}

// What is handed out is the caller's own.
func TestListsAreNew(t *testing.T) {
	all, lines := entries()
	s := strings.Join(lines, "")
	one, _ := Parse(s)
	two, _ := Parse(s)
	for i := range one {
		one[i] = api.Entry{Slot: 7}
	}
	if !slices.Equal(two, all) {
		t.Errorf("a list has changed with another one: %+v", two)
	}
}

// P1, P2: a refused call leaves what later calls answer as it was.
func TestRefusedCallsChangeNothing(t *testing.T) {
	n := api.Entry{Frame: api.Frame{ID: 291, Flags: api.Ext, Len: 2, Data: "\xab\xcd"}, Node: 2, Slot: 7}
	const want = "00000123#ABCD"
	const line = "(7) n2 " + want + "\n"
	for range 2 {
		if s, err := Tell(n.Frame); s != want || err != api.OK {
			t.Fatal(s, err)
		}
		if f, err := Read("00000123#ab.cd"); f != n.Frame || err != api.OK {
			t.Fatal(f, err)
		}
		if s, err := Line(n); s != line || err != api.OK {
			t.Fatal(s, err)
		}
		if s := Lines(n, n); s != line+line {
			t.Fatal(s)
		}
		if l, at := Parse(line + line); !slices.Equal(l, []api.Entry{n, n}) || at != -1 {
			t.Fatal(l, at)
		}
		for _, f := range wrongFrames() {
			Tell(f)
		}
		for _, w := range wrongEntries() {
			Line(w)
			Lines(n, w)
		}
		for _, s := range wrongTexts() {
			Read(s)
		}
		for _, s := range wrongLines() {
			Parse(line + s)
		}
	}
}

// P1: every call ends and none panics, whatever frames, numbers and texts it is given.
func FuzzCallsEnd(f *testing.F) {
	f.Add(0, 0, 0, "", 0, 0, "")
	f.Add(291, api.Ext, 2, "ab", 2, 7, "123##1aa.BB")
	f.Add(math.MinInt, -1, math.MaxInt, "\xff", -1, math.MinInt, "(7) n2 123#\n(8) n2 00000123#R8\n")
	for _, s := range wrongTexts() {
		if len(s) < 100 {
			f.Add(1, api.Fd, len(s), s, 1, 1, s)
		}
	}
	f.Fuzz(func(t *testing.T, id, flags, size int, data string, node, slot int, s string) {
		n := api.Entry{Frame: api.Frame{ID: id, Flags: flags, Len: size, Data: data}, Node: node, Slot: slot}
		text, err := Tell(n.Frame)
		if err != frame.Right(n.Frame) || err == api.OK && text != textOf(n.Frame) || err != api.OK && text != "" {
			t.Error("Tell", text, err)
		}
		if err == api.OK && (node < 0 || slot < 0) {
			err = api.ErrArg
		}
		line, e := Line(n)
		want := ""
		if err == api.OK {
			want = fmt.Sprintf("(%d) n%d %s\n", slot, node, text)
		}
		if e != err || line != want || Lines(n, n) != want+want {
			t.Error("Line", line, e)
		}
		reads(t, s)
		reads(t, text)
		parses(t, s)
		parses(t, line+s)
	})
}
