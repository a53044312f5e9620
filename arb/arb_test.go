package arb

import (
	"fmt"
	"math"
	"math/rand"
	"slices"
	"strings"
	"testing"
	"time"

	"signalbox/api"
)

// filled is n bytes of data.
func filled(n int) string {
	return strings.Repeat("\xa5", n)
}

// keyText is the bits of a frame's key, told otherwise than by the program.
func keyText(f api.Frame) string {
	rtr, fd := f.Flags>>1&1, f.Flags>>3&1
	if f.Flags&1 == 0 {
		return fmt.Sprintf("%011b%d0%018b0%d", f.ID, rtr, 0, fd)
	}
	return fmt.Sprintf("%011b11%018b%d%d", f.ID>>18, f.ID&(1<<18-1), rtr, fd)
}

// keyed are frames that have keys: at the edges of both widths, of each kind, and some alike but for their data.
func keyed() []api.Frame {
	var all []api.Frame
	for _, id := range []int{0, 1, 2, 291, 1023, 1024, 2046, 2047, 2048, 1<<18 - 1, 1 << 18, 291 << 18, 291<<18 | 5, 1 << 28, 1<<29 - 2, 1<<29 - 1} {
		for _, flags := range []int{0, api.Rtr, api.Fd, api.Fd | api.Brs, api.Fd | api.Esi, api.Fd | api.Brs | api.Esi} {
			for _, wide := range []int{0, api.Ext} {
				if id > 2047 && wide == 0 {
					continue
				}
				for _, n := range []int{0, 1, 8} {
					f := api.Frame{ID: id, Flags: flags | wide, Len: n, Data: filled(n)}
					if flags == api.Rtr {
						f.Data = ""
					}
					all = append(all, f)
				}
			}
		}
	}
	return append(all, api.Frame{ID: 7, Flags: api.Fd, Len: 64, Data: filled(64)}, api.Frame{ID: 7, Flags: api.Fd | api.Ext, Len: 12, Data: filled(12)})
}

// keyless are frames that have no key: those that tell of errors, and those that may not be.
func keyless() []api.Frame {
	return []api.Frame{
		{Flags: api.Err, Len: 8, Data: filled(8)},
		{ID: 4, Flags: api.Err, Len: 8, Data: filled(8)},
		{ID: api.Wide, Flags: api.Err, Len: 8, Data: filled(8)},
		{Flags: api.Err},
		{Flags: api.Err | api.Fd, Len: 8, Data: filled(8)},
		{Flags: api.Err | api.Ext, Len: 8, Data: filled(8)},
		{ID: -1},
		{ID: 2048},
		{ID: -1, Flags: api.Ext},
		{ID: 1 << 29, Flags: api.Ext},
		{ID: 1 << 32},
		{ID: math.MaxInt},
		{ID: math.MinInt, Flags: api.Ext},
		{Len: 1},
		{Len: -1},
		{Len: 9, Data: filled(9)},
		{Data: "a"},
		{Flags: api.Rtr, Len: 1, Data: "a"},
		{Flags: api.Rtr, Len: 9},
		{Flags: api.Rtr | api.Fd},
		{Flags: api.Fd, Len: 9, Data: filled(9)},
		{Flags: api.Brs},
		{Flags: api.Esi | api.Ext},
		{Flags: api.Each},
		{Flags: 64},
		{Flags: -1},
		{Flags: math.MinInt},
		{Len: math.MaxInt},
	}
}

// someKeyed is a frame that has a key, by chance one of few, so that several are alike.
func someKeyed(random *rand.Rand) api.Frame {
	if random.Intn(3) == 0 {
		all := keyed()
		return all[random.Intn(len(all))]
	}
	f := api.Frame{ID: random.Intn(4), Flags: []int{0, 0, api.Rtr, api.Fd}[random.Intn(4)], Len: random.Intn(3)}
	if random.Intn(2) == 0 {
		f.ID, f.Flags = f.ID<<18|random.Intn(2), f.Flags|api.Ext
	}
	if f.Flags&api.Rtr == 0 {
		f.Data = filled(f.Len)
	}
	return f
}

// someText is up to n bytes: of 0 and 1, or with others among them.
func someText(random *rand.Rand, n int) string {
	of := []string{"01", "011", "0111111", "1", "0", "01 \x00a\xff/2"}[random.Intn(6)]
	l := make([]byte, random.Intn(n+1))
	for i := range l {
		l[i] = of[random.Intn(len(of))]
	}
	return string(l)
}

// shown is what s shows at a place, told otherwise than by the program.
func shown(s string, place int) byte {
	if len(s) > place && s[place] == 0x30 {
		return 0
	}
	return 1
}

// longestOf is how long the longest text is.
func longestOf(l []string) int {
	n := 0
	for _, s := range l {
		if len(s) > n {
			n = len(s)
		}
	}
	return n
}

// levelOf is what the bus shows, place by place.
func levelOf(l []string) string {
	out := ""
	for place := range longestOf(l) {
		bus := byte(1)
		for _, s := range l {
			bus &= shown(s, place)
		}
		out += fmt.Sprint(bus)
	}
	return out
}

// leftOf is who is left behind as many places, one place after the other.
func leftOf(l []string, places int) []int {
	out := map[int]bool{}
	for place := range places {
		bus := byte(1)
		for i, s := range l {
			if !out[i] {
				bus &= shown(s, place)
			}
		}
		for i, s := range l {
			if shown(s, place) > bus {
				out[i] = true
			}
		}
	}
	var left []int
	for i := range l {
		if !out[i] {
			left = append(left, i)
		}
	}
	return left
}

// fields are those of frames.
func fields(l []api.Frame) []string {
	var out []string
	for _, f := range l {
		out = append(out, Field(f))
	}
	return out
}

// cut is the first bytes of each text, up to n of them.
func cut(l []string, n int) []string {
	var out []string
	for _, s := range l {
		out = append(out, s[:min(n, len(s))])
	}
	return out
}

// those are the texts with these numbers.
func those(l []string, numbers []int) []string {
	var out []string
	for _, i := range numbers {
		out = append(out, l[i])
	}
	return out
}

// P9.1: Field
func TestField(t *testing.T) {
	for _, c := range []struct {
		f    api.Frame
		want string
	}{
		{api.Frame{}, strings.Repeat("0", 33)},
		{api.Frame{ID: 1}, "00000000001" + strings.Repeat("0", 22)},
		{api.Frame{ID: 291, Len: 2, Data: "ab"}, "00100100011" + strings.Repeat("0", 22)},
		{api.Frame{ID: 2047, Flags: api.Rtr, Len: 3}, "111111111111" + strings.Repeat("0", 21)},
		{api.Frame{Flags: api.Fd}, strings.Repeat("0", 32) + "1"},
		{api.Frame{Flags: api.Ext}, "0000000000011" + strings.Repeat("0", 20)},
		{api.Frame{ID: 1, Flags: api.Ext | api.Rtr}, "0000000000011" + strings.Repeat("0", 17) + "110"},
		{api.Frame{ID: 1<<29 - 1, Flags: api.Ext | api.Fd}, strings.Repeat("1", 31) + "01"},
		{api.Frame{ID: 1<<29 - 1, Flags: api.Ext | api.Rtr}, strings.Repeat("1", 32) + "0"},
	} {
		if got := Field(c.f); got != c.want {
			t.Errorf("Field(%+v): %q", c.f, got)
		}
	}
	for _, f := range keyed() {
		if got := Field(f); got != keyText(f) || len(got) != 33 {
			t.Errorf("Field(%+v): %q", f, got)
		}
	}
	for _, f := range keyless() {
		if got := Field(f); got != "" {
			t.Errorf("Field(%+v): %q", f, got)
		}
	}
}

// P9.2: Level
func TestLevel(t *testing.T) {
	for _, c := range []struct {
		l    []string
		want string
	}{
		{nil, ""},
		{[]string{}, ""},
		{[]string{""}, ""},
		{[]string{"", ""}, ""},
		{[]string{"0"}, "0"},
		{[]string{"1"}, "1"},
		{[]string{"0", "1"}, "0"},
		{[]string{"1", "0"}, "0"},
		{[]string{"1", "1"}, "1"},
		{[]string{"0011", "0101"}, "0001"},
		{[]string{"01", "00", "1"}, "00"},
		{[]string{"", "0"}, "0"},
		{[]string{"", "1"}, "1"},
		// Who has ended shows 1, so the longer one is shown behind.
		{[]string{"0", "1101"}, "0101"},
		{[]string{"1101", "0"}, "0101"},
		{[]string{"111", "1", "11110"}, "11110"},
		{[]string{"0", "", "00000"}, "00000"},
		// Each byte but a 0 counts as a 1.
		{[]string{"2"}, "1"},
		{[]string{"a0b"}, "101"},
		{[]string{"\x00"}, "1"},
		{[]string{"\x000 /", "11110"}, "10110"},
		{[]string{"é"}, "11"},
		{[]string{"é", "10"}, "10"},
		{[]string{"\xff\xb0"}, "11"},
		{[]string{"０"}, "111"},
		{[]string{"é0"}, "110"},
	} {
		if got := Level(c.l...); got != c.want {
			t.Errorf("Level(%q): %q", c.l, got)
		}
	}
	for b := range 256 {
		want := "1"
		if b == 0x30 {
			want = "0"
		}
		s := string([]byte{byte(b)})
		if Level(s) != want || Level("1"+s) != "1"+want || Level("1", s) != want || Level(s, "") != want || Level(s, "0") != "0" {
			t.Error(b)
		}
	}
}

// P9.3: Race
func TestRace(t *testing.T) {
	for _, c := range []struct {
		l    []string
		want []int
	}{
		{nil, nil},
		{[]string{}, nil},
		{[]string{""}, []int{0}},
		{[]string{"", ""}, []int{0, 1}},
		{[]string{"0"}, []int{0}},
		{[]string{"1"}, []int{0}},
		{[]string{"1", "1"}, []int{0, 1}},
		{[]string{"0", "0", "0"}, []int{0, 1, 2}},
		{[]string{"01", "00", "1"}, []int{1}},
		{[]string{"1", "0"}, []int{1}},
		{[]string{"0", "1"}, []int{0}},
		{[]string{"0", "1", "0"}, []int{0, 2}},
		{[]string{"1", "0", "1", "0", "1"}, []int{1, 3}},
		// Who is out counts no more: the 0 of the one at 0 puts nobody out.
		{[]string{"10", "01", "01"}, []int{1, 2}},
		{[]string{"1000", "0111", "0110"}, []int{2}},
		{[]string{"011", "000", "0010", "10"}, []int{1}},
		{[]string{"0111", "1000", "0111"}, []int{0, 2}},
		// Who has ended shows 1.
		{[]string{"", "0"}, []int{1}},
		{[]string{"", "1"}, []int{0, 1}},
		{[]string{"0", "00"}, []int{1}},
		{[]string{"0", "01"}, []int{0, 1}},
		{[]string{"01", "0", "0111", "01110"}, []int{3}},
		{[]string{"01", "0", "0111", "1"}, []int{0, 1, 2}},
		{[]string{"", "11", "1"}, []int{0, 1, 2}},
		{[]string{"", "11", "110"}, []int{2}},
		{[]string{"0", "0110", "011", "0110"}, []int{1, 3}},
		// Each byte but a 0 counts as a 1.
		{[]string{"a", "1", "\x00", "é"}, []int{0, 1, 2, 3}},
		{[]string{"a", "0", "\x00"}, []int{1}},
		{[]string{"0a0", "0b0", "011"}, []int{0, 1}},
		{[]string{"é", "１", "110"}, []int{2}},
		{[]string{"é0", "110", "11"}, []int{0, 1}},
	} {
		if got := Race(c.l...); !slices.Equal(got, c.want) {
			t.Errorf("Race(%q): %v", c.l, got)
		}
	}
	for b := range 256 {
		s := string([]byte{byte(b)})
		for _, l := range [][]string{{"1", s, "1"}, {"0", s, "0"}, {"1" + s, "1", "11", "1" + s}, {s, ""}} {
			if got := Race(l...); !slices.Equal(got, leftOf(l, longestOf(l))) {
				t.Errorf("Race(%q): %v", l, got)
			}
		}
		if got := Race("1", s); slices.Equal(got, []int{1}) != (b == 0x30) {
			t.Error(b, got)
		}
	}
}

// P9.2, P9.3: all races of up to three texts of up to three bits, and some by chance, held against one place after the other
func TestRaceAll(t *testing.T) {
	short := []string{""}
	for n := 0; n < len(short); n++ {
		if len(short[n]) < 3 {
			short = append(short, short[n]+"0", short[n]+"1")
		}
	}
	try := func(l ...string) {
		if got := Race(l...); !slices.Equal(got, leftOf(l, longestOf(l))) {
			t.Fatalf("Race(%q): %v", l, got)
		}
		if got := Level(l...); got != levelOf(l) {
			t.Fatalf("Level(%q): %q", l, got)
		}
	}
	for _, a := range short {
		try(a)
		for _, b := range short {
			try(a, b)
			for _, c := range short {
				try(a, b, c)
			}
		}
	}
	random := rand.New(rand.NewSource(93))
	for range 20000 {
		var l []string
		for range random.Intn(7) {
			l = append(l, someText(random, 12))
		}
		try(l...)
	}
}

// P9.4: Least
func TestLeast(t *testing.T) {
	off := keyless()[0]
	for _, c := range []struct {
		l    []api.Frame
		want int
		is   bool
	}{
		{nil, 0, false},
		{[]api.Frame{}, 0, false},
		{[]api.Frame{{}}, 0, true},
		{[]api.Frame{{ID: 2}, {ID: 1}}, 1, true},
		{[]api.Frame{{ID: 1}, {ID: 2}}, 0, true},
		{[]api.Frame{{ID: 3}, {ID: 1}, {ID: 2}}, 1, true},
		{[]api.Frame{{ID: 3}, {ID: 2}, {ID: 1}}, 2, true},
		// Of several the first one, whatever their data.
		{[]api.Frame{{ID: 2}, {ID: 1}, {ID: 1}}, 1, true},
		{[]api.Frame{{ID: 1, Len: 1, Data: "b"}, {ID: 1}, {ID: 1, Len: 1, Data: "a"}}, 0, true},
		{[]api.Frame{{ID: 2047}, {}, {ID: 5}, {}}, 1, true},
		// Those without a key are passed over.
		{[]api.Frame{off}, 0, false},
		{[]api.Frame{off, {ID: -1}}, 0, false},
		{[]api.Frame{off, {ID: 2047}}, 1, true},
		{[]api.Frame{{ID: -1}, {ID: 9}, off, {ID: 8}, off}, 3, true},
		{[]api.Frame{{ID: 9}, {ID: -1}}, 0, true},
		{[]api.Frame{{Flags: 64}, {ID: 2048}, {ID: 1<<29 - 1, Flags: api.Ext | api.Rtr}}, 2, true},
		// A narrow one is less than a wide one, one with data less than one that asks, one without Fd less than one with it.
		{[]api.Frame{{Flags: api.Ext}, {Flags: api.Rtr}, {Flags: api.Fd}, {}}, 3, true},
		{[]api.Frame{{Flags: api.Ext}, {Flags: api.Rtr}, {Flags: api.Fd}}, 2, true},
		{[]api.Frame{{Flags: api.Ext}, {Flags: api.Rtr}}, 1, true},
		{[]api.Frame{{ID: 1}, {ID: 5, Flags: api.Ext}}, 1, true},
		{[]api.Frame{{Flags: api.Fd | api.Brs | api.Esi}, {Flags: api.Fd}}, 0, true},
	} {
		if got, is := Least(c.l...); got != c.want || is != c.is {
			t.Errorf("Least(%+v): %d, %v", c.l, got, is)
		}
	}
	for _, f := range keyed() {
		for _, g := range keyed() {
			want := 0
			if keyText(g) < keyText(f) {
				want = 1
			}
			if got, is := Least(f, g); got != want || !is {
				t.Fatalf("Least(%+v, %+v): %d, %v", f, g, got, is)
			}
		}
	}
	for _, f := range keyless() {
		if got, is := Least(f); got != 0 || is {
			t.Errorf("Least(%+v): %d, %v", f, got, is)
		}
		if got, is := Least(f, api.Frame{ID: 2047, Flags: api.Rtr}, f); got != 1 || !is {
			t.Errorf("Least(%+v and one more): %d, %v", f, got, is)
		}
	}
}

// someFrames are up to n frames, some without a key, if so wanted.
func someFrames(random *rand.Rand, n int, all bool) []api.Frame {
	var l []api.Frame
	for range random.Intn(n) + 1 {
		if all && random.Intn(4) == 0 {
			off := keyless()
			l = append(l, off[random.Intn(len(off))])
			continue
		}
		l = append(l, someKeyed(random))
	}
	return l
}

// P9.5: those are left whose key is the least, and Least is one of them
func TestLeastKeyIsLeft(t *testing.T) {
	random := rand.New(rand.NewSource(95))
	for range 5000 {
		l := someFrames(random, 8, true)
		least, want := "", []int(nil)
		for i, f := range l {
			switch field := Field(f); {
			case field == "":
			case least == "" || field < least:
				least, want = field, []int{i}
			case field == least:
				want = append(want, i)
			}
		}
		number, is := Least(l...)
		if is != (want != nil) {
			t.Fatal(l, number, is)
		}
		if !is {
			continue
		}
		if got := Race(fields(l)...); !slices.Equal(got, want) || number != got[0] {
			t.Fatal(l, got, want, number)
		}
	}
}

// P9.6: what is shown, until one alone is left, is the field of those that are left
func TestWhatIsShown(t *testing.T) {
	random := rand.New(rand.NewSource(96))
	for range 1000 {
		l := fields(someFrames(random, 6, false))
		left := Race(l...)
		if len(left) == 0 {
			t.Fatal(l)
		}
		field := l[left[0]]
		if got := Level(those(l, left)...); got != field {
			t.Fatal(l, got)
		}
		for place := range 33 {
			still := Race(cut(l, place)...)
			if got := Level(those(l, still)...)[place]; got != field[place] {
				t.Fatal(l, place, still, got)
			}
			if len(still) == 1 && still[0] != left[0] {
				t.Fatal(l, place, still)
			}
		}
	}
}

// P9.7: without one that goes out, the same are left
func TestWhoGoesOutChangesNothing(t *testing.T) {
	random := rand.New(rand.NewSource(97))
	try := func(l []string) {
		left := Race(l...)
		for number := range l {
			if slices.Contains(left, number) {
				continue
			}
			without := slices.Delete(slices.Clone(l), number, number+1)
			got := Race(without...)
			for i := range got {
				if got[i] >= number {
					got[i]++
				}
			}
			if !slices.Equal(got, left) {
				t.Fatalf("%q without %d: %v, not %v", l, number, got, left)
			}
		}
	}
	for range 5000 {
		var l []string
		for range random.Intn(6) + 1 {
			l = append(l, someText(random, 8))
		}
		try(l)
		try(fields(someFrames(random, 6, true)))
	}
}

// P0.6: who has the less key shows a 0 first
func TestLessShowsFirst(t *testing.T) {
	for _, f := range keyed() {
		for _, g := range keyed() {
			a, b := Field(f), Field(g)
			for place := range 33 {
				if a[place] != b[place] {
					if number, _ := Least(f, g); (number == 0) != (a[place] == '0') {
						t.Fatal(f, g, place)
					}
					break
				}
			}
		}
	}
}

// P1: races of many texts, and of long ones, end soon
func TestGreat(t *testing.T) {
	begun := time.Now()
	many := make([]string, 1<<17)
	many[5] = strings.Repeat("1", 1<<20)
	if got := Race(many...); len(got) != 1<<17 {
		t.Error(len(got))
	}
	if got := Level(many...); got != many[5] {
		t.Error(len(got))
	}
	many[5] += "0"
	if got := Race(many...); !slices.Equal(got, []int{5}) {
		t.Error(len(got))
	}
	long := strings.Repeat("0", 1<<20)
	if got := Race(long, long, long+"1", long[1:]); !slices.Equal(got, []int{0, 1, 2}) {
		t.Error(got)
	}
	if n := time.Since(begun); n > 20*time.Second {
		t.Error(n)
	}
}

// Rules that hold everywhere: what is handed in stays as it is, and what is handed out is the caller's own.
func TestOwn(t *testing.T) {
	l := []string{"01", "00", "1", "00"}
	got := Race(l...)
	got[0], got[1] = 77, 78
	if again := Race(l...); !slices.Equal(again, []int{1, 3}) {
		t.Error(again)
	}
	Level(l...)
	if !slices.Equal(l, []string{"01", "00", "1", "00"}) {
		t.Error(l)
	}
	frames := []api.Frame{{ID: 2}, {ID: -1}, {ID: 1}}
	Least(frames...)
	if !slices.Equal(frames, []api.Frame{{ID: 2}, {ID: -1}, {ID: 1}}) {
		t.Error(frames)
	}
}

// P1, P2: calls that are refused change nothing that a later one could tell.
func TestRefusedCallsChangeNothing(t *testing.T) {
	for range 2 {
		if got := Field(api.Frame{ID: 1}); got != keyText(api.Frame{ID: 1}) {
			t.Fatal(got)
		}
		if got := Level("0011", "0101"); got != "0001" {
			t.Fatal(got)
		}
		if got := Race("01", "00", "1"); !slices.Equal(got, []int{1}) {
			t.Fatal(got)
		}
		if got, is := Least(api.Frame{ID: 2}, api.Frame{ID: 1}); got != 1 || !is {
			t.Fatal(got, is)
		}
		for _, f := range keyless() {
			Field(f)
			Least(f)
		}
		Level()
		Race()
		Least()
	}
}

// P1: all calls end, at all arguments, and hold together.
func FuzzCallsEnd(f *testing.F) {
	for _, x := range append(keyed()[:100], keyless()...) {
		f.Add(x.ID, x.Flags, x.Len, x.Data, "01,00,1")
	}
	f.Add(0, 0, 0, "", "")
	f.Add(0, 0, 0, "", ",,0")
	f.Add(0, 0, 0, "", "é,0é,\xff0")
	f.Fuzz(func(t *testing.T, id, flags, n int, data, s string) {
		l := strings.Split(s, ",")
		if got := Race(l...); !slices.Equal(got, leftOf(l, longestOf(l))) {
			t.Errorf("Race(%q): %v", l, got)
		}
		if got := Level(l...); got != levelOf(l) {
			t.Errorf("Level(%q): %q", l, got)
		}
		x := api.Frame{ID: id, Flags: flags, Len: n, Data: data}
		field := Field(x)
		if field != "" && field != keyText(x) {
			t.Errorf("Field(%+v): %q", x, field)
		}
		last := api.Frame{ID: 1<<29 - 1, Flags: api.Ext | api.Rtr}
		number, is := Least(last, x)
		if want := field != "" && field < Field(last); !is || (number == 1) != want || number < 0 || number > 1 {
			t.Errorf("Least(%+v, %+v): %d, %v", last, x, number, is)
		}
		if number, is := Least(x); is != (field != "") || number != 0 {
			t.Errorf("Least(%+v): %d, %v", x, number, is)
		}
	})
}
