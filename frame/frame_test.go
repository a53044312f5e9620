package frame

import (
	"fmt"
	"math"
	"strings"
	"testing"

	"signalbox/api"
)

// kind is all that may be of one set of flags, written out by hand, to be told otherwise than by the program.
type kind struct {
	flags, top int
	lens       []int
	data       bool
}

var (
	upTo8  = []int{0, 1, 2, 3, 4, 5, 6, 7, 8}
	upTo64 = []int{0, 1, 2, 3, 4, 5, 6, 7, 8, 12, 16, 20, 24, 32, 48, 64}
)

func kinds() []kind {
	return []kind{
		{0, 2047, upTo8, true},
		{1, 536870911, upTo8, true},
		{2, 2047, upTo8, false},
		{3, 536870911, upTo8, false},
		{4, 536870911, []int{8}, true},
		{8, 2047, upTo64, true},
		{9, 536870911, upTo64, true},
		{24, 2047, upTo64, true},
		{25, 536870911, upTo64, true},
		{40, 2047, upTo64, true},
		{41, 536870911, upTo64, true},
		{56, 2047, upTo64, true},
		{57, 536870911, upTo64, true},
	}
}

// kindOf is the kind that has these flags; nil, if none may have them.
func kindOf(flags int) *kind {
	for _, k := range kinds() {
		if k.flags == flags {
			return &k
		}
	}
	return nil
}

// has tells whether a frame is of the kind.
func (k *kind) has(f api.Frame) bool {
	if k == nil || f.ID < 0 || f.ID > k.top {
		return false
	}
	for _, n := range k.lens {
		if f.Len == n {
			return k.data && len(f.Data) == n || !k.data && f.Data == ""
		}
	}
	return false
}

// ids are those at the edges of both widths, and of the parts of a wide one.
func ids() []int {
	return []int{0, 1, 2, 291, 1023, 1024, 2046, 2047, 2048, 1<<18 - 1, 1 << 18, 1<<18 + 1, 291<<18 | 5, 1 << 28, 1<<29 - 2, 1<<29 - 1}
}

// wrongIDs are those that no frame may have.
func wrongIDs() []int {
	return []int{-1, -2047, -1 << 29, 1 << 29, 1<<29 + 1, 1 << 32, 1<<32 + 5, math.MaxInt, math.MinInt}
}

func wrongLens() []int {
	return []int{-1, -8, 9, 10, 11, 13, 15, 17, 63, 65, 72, 128, 256, 1<<32 + 8, math.MaxInt, math.MinInt}
}

// text is n bytes, the first of them unlike each other.
func text(n int) string {
	var out strings.Builder
	for i := range n {
		out.WriteByte(byte(255 - 37*i))
	}
	return out.String()
}

// frames are frames that may be: each kind, with each of its lengths, and each of ids that it may have.
func frames() []api.Frame {
	var all []api.Frame
	for _, k := range kinds() {
		for _, id := range ids() {
			for _, n := range k.lens {
				f := api.Frame{ID: id, Flags: k.flags, Len: n}
				if k.data {
					f.Data = text(n)
				}
				if id <= k.top {
					all = append(all, f)
				}
			}
		}
	}
	return all
}

// wrongFrames are some that may not be.
func wrongFrames() []api.Frame {
	all := []api.Frame{
		{Len: 1},
		{Data: "a"},
		{Len: -1},
		{Len: 9, Data: text(9)},
		{Len: 2, Data: "abc"},
		{Len: 8, Data: text(7)},
		{ID: 2048},
		{ID: 2048, Flags: api.Rtr},
		{ID: 2048, Flags: api.Fd},
		{Flags: api.Rtr, Len: 1, Data: "a"},
		{Flags: api.Rtr, Data: "a"},
		{Flags: api.Rtr, Len: 9},
		{Flags: api.Rtr, Len: -1},
		{Flags: api.Ext | api.Rtr, Len: 12},
		{Flags: api.Err},
		{Flags: api.Err, Len: 7, Data: text(7)},
		{Flags: api.Err, Len: 8},
		{Flags: api.Err, Len: 9, Data: text(9)},
		{Flags: api.Err | api.Ext, Len: 8, Data: text(8)},
		{Flags: api.Err | api.Rtr, Len: 8},
		{Flags: api.Err | api.Rtr, Len: 8, Data: text(8)},
		{Flags: api.Err | api.Fd, Len: 8, Data: text(8)},
		{Flags: api.Err | api.Brs, Len: 8, Data: text(8)},
		{Flags: api.Err | api.Esi, Len: 8, Data: text(8)},
		{Flags: api.Err | api.Fd | api.Brs, Len: 8, Data: text(8)},
		{Flags: api.Fd | api.Rtr},
		{Flags: api.Fd | api.Rtr | api.Ext, Len: 8},
		{Flags: api.Brs},
		{Flags: api.Esi},
		{Flags: api.Brs | api.Esi | api.Ext},
		{Flags: api.Rtr | api.Brs},
		{Flags: api.Each},
		{Flags: 64},
		{Flags: 128 | api.Ext},
		{Flags: 1 << 32},
		{Flags: -1},
		{Flags: -64},
		{Flags: math.MinInt},
		{Flags: math.MaxInt},
	}
	for _, n := range wrongLens() {
		all = append(all, api.Frame{Flags: api.Fd, Len: n, Data: text(min(max(n, 0), 256))})
	}
	for _, id := range wrongIDs() {
		all = append(all, api.Frame{ID: id}, api.Frame{ID: id, Flags: api.Ext}, api.Frame{ID: id, Flags: api.Fd | api.Ext})
		all = append(all, api.Frame{ID: id, Flags: api.Err, Len: 8, Data: text(8)})
	}
	return all
}

// P2.1
func TestRight(t *testing.T) {
	for _, f := range frames() {
		if got := Right(f); got != api.OK {
			t.Errorf("Right(%+v) = %d", f, got)
		}
	}
	for _, f := range wrongFrames() {
		if got := Right(f); got != api.ErrFrame {
			t.Errorf("Right(%+v) = %d", f, got)
		}
	}
}

// P2.1: all flags, lengths and edges against the kinds that are written out above.
func TestRightByKinds(t *testing.T) {
	all := append(ids(), wrongIDs()...)
	for flags := -70; flags <= 200; flags++ {
		k := kindOf(flags)
		for _, id := range all {
			for n := -2; n <= 66; n++ {
				for _, size := range []int{0, n - 1, n, n + 1, 8} {
					f := api.Frame{ID: id, Flags: flags, Len: n, Data: text(max(size, 0))}
					want := api.ErrFrame
					if k.has(f) {
						want = api.OK
					}
					if got := Right(f); got != want {
						t.Fatalf("Right(%+v) = %d, want %d", f, got, want)
					}
				}
			}
		}
	}
}

// P2.2
func TestCode(t *testing.T) {
	next := 0
	for n := -10; n <= 300; n++ {
		want, is := 0, next < len(upTo64) && upTo64[next] == n
		if is {
			want = next
			next++
		}
		if got, ok := Code(n); got != want || ok != is {
			t.Errorf("Code(%d) = %d, %v, want %d, %v", n, got, ok, want, is)
		}
	}
	if next != 16 {
		t.Errorf("%d lengths have codes", next)
	}
	for _, n := range wrongLens() {
		if got, is := Code(n); got != 0 || is {
			t.Errorf("Code(%d) = %d, %v", n, got, is)
		}
	}
}

// P2.2
func TestSize(t *testing.T) {
	for code, want := range upTo64 {
		if got, is := Size(code); got != want || !is {
			t.Errorf("Size(%d) = %d, %v, want %d", code, got, is, want)
		}
	}
	for _, code := range []int{-1, -16, 16, 17, 64, 1 << 32, math.MaxInt, math.MinInt} {
		if got, is := Size(code); got != 0 || is {
			t.Errorf("Size(%d) = %d, %v", code, got, is)
		}
	}
}

// P2.2
func TestFit(t *testing.T) {
	cases := []struct{ n, want int }{
		{0, 0}, {1, 1}, {2, 2}, {3, 3}, {4, 4}, {5, 5}, {6, 6}, {7, 7}, {8, 8},
		{9, 12}, {10, 12}, {11, 12}, {12, 12}, {13, 16}, {16, 16}, {17, 20}, {20, 20}, {21, 24}, {24, 24},
		{25, 32}, {31, 32}, {32, 32}, {33, 48}, {48, 48}, {49, 64}, {63, 64}, {64, 64},
	}
	for _, c := range cases {
		if got, is := Fit(c.n); got != c.want || !is {
			t.Errorf("Fit(%d) = %d, %v, want %d", c.n, got, is, c.want)
		}
	}
	for _, n := range []int{-1, -2, -64, math.MinInt, 65, 66, 1000, math.MaxInt} {
		if got, is := Fit(n); got != 0 || is {
			t.Errorf("Fit(%d) = %d, %v", n, got, is)
		}
	}
}

// P2.2: Fit is a length, not below n, and there is none between.
func TestFitIsTheLeast(t *testing.T) {
	for n := range 65 {
		got, _ := Fit(n)
		if _, is := Code(got); !is || got < n {
			t.Fatalf("Fit(%d) = %d", n, got)
		}
		for below := n; below < got; below++ {
			if _, is := Code(below); is {
				t.Fatalf("Fit(%d) = %d, not %d", n, got, below)
			}
		}
	}
}

// P2.3
func TestWord(t *testing.T) {
	cases := []struct {
		f    api.Frame
		want uint32
	}{
		{api.Frame{ID: 291, Len: 2, Data: "ab"}, 291},
		{api.Frame{}, 0},
		{api.Frame{ID: 2047}, 0x7FF},
		{api.Frame{ID: 291, Flags: api.Ext}, 0x80000123},
		{api.Frame{Flags: api.Ext}, 0x80000000},
		{api.Frame{ID: api.Wide, Flags: api.Ext}, 0x9FFFFFFF},
		{api.Frame{ID: 291, Flags: api.Rtr, Len: 8}, 0x40000123},
		{api.Frame{ID: api.Wide, Flags: api.Ext | api.Rtr}, 0xDFFFFFFF},
		{api.Frame{ID: 4, Flags: api.Err, Len: 8, Data: text(8)}, 0x20000004},
		{api.Frame{ID: api.Wide, Flags: api.Err, Len: 8, Data: text(8)}, 0x3FFFFFFF},
		{api.Frame{ID: 291, Flags: api.Fd, Len: 12, Data: text(12)}, 0x123},
		{api.Frame{ID: 291, Flags: api.Fd | api.Brs | api.Esi}, 0x123},
		{api.Frame{ID: 2048, Flags: api.Fd | api.Ext | api.Brs | api.Esi}, 0x80000800},
	}
	for _, c := range cases {
		if got := Word(c.f); got != c.want {
			t.Errorf("Word(%+v) = %x, want %x", c.f, got, c.want)
		}
	}
	for _, f := range wrongFrames() {
		if got := Word(f); got != 0 {
			t.Errorf("Word(%+v) = %x, want 0", f, got)
		}
	}
}

// P2.3
func TestOf(t *testing.T) {
	cases := []struct {
		w    uint32
		data string
		want api.Frame
	}{
		{0, "", api.Frame{}},
		{291, "ab", api.Frame{ID: 291, Len: 2, Data: "ab"}},
		{2047, text(8), api.Frame{ID: 2047, Len: 8, Data: text(8)}},
		{0x80000123, "a", api.Frame{ID: 291, Flags: api.Ext, Len: 1, Data: "a"}},
		{0x80000800, "", api.Frame{ID: 2048, Flags: api.Ext}},
		{0x9FFFFFFF, text(8), api.Frame{ID: api.Wide, Flags: api.Ext, Len: 8, Data: text(8)}},
		{0x40000123, "", api.Frame{ID: 291, Flags: api.Rtr}},
		{0x40000123, "abc", api.Frame{ID: 291, Flags: api.Rtr, Len: 3}},
		{0xDFFFFFFF, text(8), api.Frame{ID: api.Wide, Flags: api.Ext | api.Rtr, Len: 8}},
		{0x20000004, text(8), api.Frame{ID: 4, Flags: api.Err, Len: 8, Data: text(8)}},
		{0x20000800, text(8), api.Frame{ID: 2048, Flags: api.Err, Len: 8, Data: text(8)}},
		{0x3FFFFFFF, text(8), api.Frame{ID: api.Wide, Flags: api.Err, Len: 8, Data: text(8)}},
		{5, "\x00é\xff", api.Frame{ID: 5, Len: 4, Data: "\x00é\xff"}},
	}
	for _, c := range cases {
		if got, err := Of(c.w, c.data); got != c.want || err != api.OK {
			t.Errorf("Of(%x, %x) = %+v, %d, want %+v", c.w, c.data, got, err, c.want)
		}
	}
}

// P2.3, P1
func TestOfRefuses(t *testing.T) {
	cases := []struct {
		w    uint32
		data string
	}{
		{2048, ""},
		{0x1FFFFFFF, "a"},
		{0x40000800, ""},
		{0x40000800, "a"},
		{291, text(9)},
		{291, text(12)},
		{291, text(64)},
		{0x80000123, text(9)},
		{0x40000123, text(9)},
		{0xC0000123, text(64)},
		{0x20000004, ""},
		{0x20000004, text(7)},
		{0x20000004, text(9)},
		{0xA0000004, text(8)},
		{0x60000004, text(8)},
		{0xE0000004, text(8)},
		{0xE0000004, ""},
		{math.MaxUint32, text(8)},
		{0, text(1 << 16)},
	}
	for _, c := range cases {
		if got, err := Of(c.w, c.data); got != (api.Frame{}) || err != api.ErrFrame {
			t.Errorf("Of(%x, %x) = %+v, %d", c.w, c.data, got, err)
		}
	}
}

// P2.3: Of is the one frame without Fd of this word and data among those that may be, if there is one.
func TestOfByWord(t *testing.T) {
	for _, top := range []uint32{0, 1 << 31, 1 << 30, 1 << 29, 3 << 30, 5 << 29, 3 << 29, 7 << 29} {
		for _, id := range ids() {
			for n := range 20 {
				w := top | uint32(id)
				want, wantErr := api.Frame{}, api.ErrFrame
				for flags := range 8 {
					f := api.Frame{ID: id, Flags: flags, Len: n, Data: text(n)}
					if flags&api.Rtr != 0 {
						f.Data = ""
					}
					if kindOf(flags).has(f) && Word(f) == w {
						want, wantErr = f, api.OK
					}
				}
				if got, err := Of(w, text(n)); got != want || err != wantErr {
					t.Fatalf("Of(%x, %d bytes) = %+v, %d, want %+v, %d", w, n, got, err, want, wantErr)
				}
			}
		}
	}
}

// keyText is the bits of a frame's key as the chapter lists them.
func keyText(f api.Frame) string {
	bit := func(flag int) string {
		if f.Flags&flag != 0 {
			return "1"
		}
		return "0"
	}
	if f.Flags&api.Ext == 0 {
		return fmt.Sprintf("%011b", f.ID) + bit(api.Rtr) + "0" + strings.Repeat("0", 18) + "0" + bit(api.Fd)
	}
	id := fmt.Sprintf("%029b", f.ID)
	return id[:11] + "1" + "1" + id[11:] + bit(api.Rtr) + bit(api.Fd)
}

// P2.4
func TestKey(t *testing.T) {
	cases := []struct {
		f    api.Frame
		want int
	}{
		{api.Frame{ID: 291, Len: 2, Data: "ab"}, 291 << 22},
		{api.Frame{}, 0},
		{api.Frame{Flags: api.Fd}, 1},
		{api.Frame{Flags: api.Fd | api.Brs | api.Esi}, 1},
		{api.Frame{Flags: api.Rtr}, 1 << 21},
		{api.Frame{ID: 2047}, 2047 << 22},
		{api.Frame{ID: 2047, Flags: api.Rtr, Len: 8}, 2047<<22 | 1<<21},
		{api.Frame{Flags: api.Ext}, 3 << 20},
		{api.Frame{ID: 1, Flags: api.Ext}, 3<<20 | 1<<2},
		{api.Frame{ID: 1<<18 - 1, Flags: api.Ext}, 1<<22 - 4},
		{api.Frame{ID: 1 << 18, Flags: api.Ext}, 1<<22 | 3<<20},
		{api.Frame{Flags: api.Ext | api.Rtr}, 3<<20 | 2},
		{api.Frame{Flags: api.Ext | api.Fd}, 3<<20 | 1},
		{api.Frame{ID: api.Wide, Flags: api.Ext | api.Rtr}, 1<<33 - 2},
		{api.Frame{ID: api.Wide, Flags: api.Ext | api.Fd}, 1<<33 - 3},
	}
	for _, c := range cases {
		if got := Key(c.f); got != c.want {
			t.Errorf("Key(%+v) = %b, want %b", c.f, got, c.want)
		}
	}
	for _, f := range frames() {
		if f.Flags == api.Err {
			continue
		}
		if got, want := fmt.Sprintf("%033b", Key(f)), keyText(f); got != want {
			t.Fatalf("Key(%+v) = %s, want %s", f, got, want)
		}
	}
}

// P2.4
func TestKeyOfOthers(t *testing.T) {
	for _, f := range wrongFrames() {
		if got := Key(f); got != -1 {
			t.Errorf("Key(%+v) = %d, want -1", f, got)
		}
	}
	for _, f := range frames() {
		if got := Key(f); f.Flags == api.Err && got != -1 {
			t.Errorf("Key(%+v) = %d, want -1", f, got)
		}
	}
}

// P2.4
func TestLess(t *testing.T) {
	all := append(sample(), wrongFrames()...)
	all = append(all, api.Frame{Flags: api.Err, Len: 8, Data: text(8)}, api.Frame{ID: 4, Flags: api.Err, Len: 8, Data: text(8)})
	for _, f := range all {
		for _, g := range all {
			want := Key(f) >= 0 && Key(g) >= 0 && Key(f) < Key(g)
			if got := Less(f, g); got != want {
				t.Fatalf("Less(%+v, %+v) = %v", f, g, got)
			}
		}
	}
	if !Less(api.Frame{ID: 123}, api.Frame{ID: 124}) || Less(api.Frame{ID: 124}, api.Frame{ID: 123}) {
		t.Error("123 is not the lesser one")
	}
}

// sample is a frame of each kind that has a key and of each of ids, and one more that is alike in all that a key tells.
func sample() []api.Frame {
	var all []api.Frame
	for _, k := range kinds() {
		for _, id := range ids() {
			if id > k.top || k.flags == api.Err {
				continue
			}
			f := api.Frame{ID: id, Flags: k.flags}
			g := api.Frame{ID: id, Flags: k.flags, Len: 3}
			if k.data {
				g.Data = "abc"
			}
			all = append(all, f, g)
		}
	}
	return all
}

// P2.5
func TestOfLeadsBackFromWord(t *testing.T) {
	for _, f := range frames() {
		if f.Flags&api.Fd != 0 {
			continue
		}
		if got, err := Of(Word(f), text(f.Len)); got != f || err != api.OK {
			t.Errorf("Of(%x) = %+v, %d, want %+v", Word(f), got, err, f)
		}
	}
}

// P2.5
func TestSizeLeadsBackFromCode(t *testing.T) {
	for n := range 65 {
		code, is := Code(n)
		if !is {
			continue
		}
		if got, ok := Size(code); got != n || !ok {
			t.Errorf("Size(%d) = %d, %v, want %d", code, got, ok, n)
		}
	}
	for code := range 16 {
		n, _ := Size(code)
		if got, is := Code(n); got != code || !is {
			t.Errorf("Code(%d) = %d, %v, want %d", n, got, is, code)
		}
	}
}

// P2.6
func TestKeysAreAlike(t *testing.T) {
	const told = api.Ext | api.Rtr | api.Fd
	all := sample()
	for _, f := range all {
		for _, g := range all {
			want := f.ID == g.ID && f.Flags&told == g.Flags&told
			if got := Key(f) == Key(g); got != want {
				t.Fatalf("Key(%+v) = %d, Key(%+v) = %d", f, Key(f), g, Key(g))
			}
			if want && (Less(f, g) || Less(g, f)) || !want && Less(f, g) == Less(g, f) {
				t.Fatalf("Less(%+v, %+v) = %v both ways", f, g, Less(f, g))
			}
		}
	}
}

// P2.6: what is less than a lesser one is less than that one's greater ones.
func TestLessGoesOn(t *testing.T) {
	var all []api.Frame
	for _, f := range sample() {
		// What differs in its data alone would only be gone through twice.
		if f.Len == 0 {
			all = append(all, f)
		}
	}
	for _, f := range all {
		for _, g := range all {
			if !Less(f, g) {
				continue
			}
			for _, h := range all {
				if Less(g, h) && !Less(f, h) {
					t.Fatalf("%+v, %+v, %+v are in no order", f, g, h)
				}
			}
		}
	}
}

// P2.7
func TestNarrowIsLessThanWide(t *testing.T) {
	for _, f := range sample() {
		for _, g := range sample() {
			if f.Flags&api.Ext == 0 && g.Flags&api.Ext != 0 && g.ID>>18 == f.ID && !Less(f, g) {
				t.Fatalf("%+v is not less than %+v", f, g)
			}
		}
	}
}

// P2.7
func TestDataAreLessThanAsking(t *testing.T) {
	for _, f := range sample() {
		for _, g := range sample() {
			one := f.ID == g.ID && f.Flags&api.Ext == g.Flags&api.Ext
			if one && f.Flags&api.Rtr == 0 && g.Flags&api.Rtr != 0 && !Less(f, g) {
				t.Fatalf("%+v is not less than %+v", f, g)
			}
		}
	}
}

// P1, P2: a refused call leaves what later calls answer as it was.
func TestRefusedCallsChangeNothing(t *testing.T) {
	f := api.Frame{ID: 291, Flags: api.Ext, Len: 2, Data: "ab"}
	for range 2 {
		if got, err := Of(0x80000123, "ab"); got != f || err != api.OK {
			t.Fatal(got, err)
		}
		if got := Key(f); got != 3<<20|291<<2 || Right(f) != api.OK || Word(f) != 0x80000123 {
			t.Fatal(got)
		}
		if got, is := Code(64); got != 15 || !is {
			t.Fatal(got, is)
		}
		if got, is := Size(9); got != 12 || !is {
			t.Fatal(got, is)
		}
		if got, is := Fit(9); got != 12 || !is {
			t.Fatal(got, is)
		}
		for _, g := range wrongFrames() {
			Right(g)
			Word(g)
			Key(g)
			Less(f, g)
			Less(g, f)
		}
		Code(9)
		Size(16)
		Fit(65)
		Fit(-1)
		Of(math.MaxUint32, text(9))
	}
}

// P1: every call ends and none panics, whatever frames, numbers and texts it is given.
func FuzzCallsEnd(f *testing.F) {
	f.Add(0, 0, 0, "", uint32(0))
	f.Add(291, api.Ext, 2, "ab", uint32(0x80000123))
	f.Add(math.MinInt, -1, math.MaxInt, "\xff", uint32(math.MaxUint32))
	f.Fuzz(func(t *testing.T, id, flags, n int, data string, w uint32) {
		x := api.Frame{ID: id, Flags: flags, Len: n, Data: data}
		right := kindOf(flags).has(x)
		if (Right(x) == api.OK) != right || !right && Right(x) != api.ErrFrame {
			t.Error("Right", Right(x))
		}
		if !right && (Word(x) != 0 || Key(x) != -1) || Less(x, x) {
			t.Error("Word", Word(x), "Key", Key(x))
		}
		got, err := Of(w, data)
		if err == api.OK && (Word(got) != w || got.Len != len(data)) || err != api.OK && got != (api.Frame{}) {
			t.Error("Of", got, err)
		}
		if size, is := Fit(n); is && size < n || is != (n >= 0 && n <= 64) {
			t.Error("Fit", size, is)
		}
		if code, is := Code(n); is {
			if size, ok := Size(code); size != n || !ok {
				t.Error("Size", size, ok)
			}
		}
		if size, is := Size(n); is != (n >= 0 && n < 16) || !is && size != 0 {
			t.Error("Size", size, is)
		}
	})
}
