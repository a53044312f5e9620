package match

import (
	"fmt"
	"math"
	"math/rand"
	"slices"
	"strings"
	"testing"

	"signalbox/api"
	"signalbox/frame"
)

// pass lets all words through, block none.
var (
	pass  = api.Filter{}
	block = api.Filter{Inv: true}
)

// hitBits is Hit, bit by bit, to be told otherwise than by the program.
func hitBits(f api.Filter, w uint32) bool {
	bits := func(n uint32) string { return fmt.Sprintf("%032b", n) }
	id, mask, word := bits(f.ID), bits(f.Mask), bits(w)
	for i := range 32 {
		if mask[i] == '1' && id[i] != word[i] {
			return f.Inv
		}
	}
	return !f.Inv
}

// words are some at the edges of identifiers, and of the bits above them.
func words() []uint32 {
	l := []uint32{0, 1, 2, 255, 256, 291, 511, 512, 2047, 2048, 1<<29 - 1, math.MaxUint32, 0x55555555, 0xAAAAAAAA}
	for _, top := range []uint32{api.WordExt, api.WordRtr, api.WordErr, api.WordExt | api.WordRtr} {
		l = append(l, top, top|1, top|291, top|2048, top|api.Wide)
	}
	return l
}

// filters are those of each word as ID and each as Mask, both of Inv and without.
func filters() []api.Filter {
	var l []api.Filter
	for _, id := range words() {
		for _, mask := range words() {
			l = append(l, api.Filter{ID: id, Mask: mask}, api.Filter{ID: id, Mask: mask, Inv: true})
		}
	}
	return l
}

// text is n bytes.
func text(n int) string {
	return strings.Repeat("a", n)
}

// rightFrames are frames that may be, with their words.
func rightFrames() map[api.Frame]uint32 {
	return map[api.Frame]uint32{
		{}:                                              0,
		{ID: 1}:                                         1,
		{ID: 256}:                                       256,
		{ID: 291, Len: 2, Data: "ab"}:                   291,
		{ID: 291, Len: 8, Data: text(8)}:                291,
		{ID: 2047}:                                      2047,
		{ID: 291, Flags: api.Rtr, Len: 3}:               0x40000123,
		{ID: 291, Flags: api.Rtr}:                       0x40000123,
		{ID: 291, Flags: api.Ext}:                       0x80000123,
		{ID: 2048, Flags: api.Ext}:                      0x80000800,
		{ID: api.Wide, Flags: api.Ext}:                  0x9FFFFFFF,
		{ID: 291, Flags: api.Ext | api.Rtr}:             0xC0000123,
		{ID: 291, Flags: api.Fd}:                        291,
		{Flags: api.Fd | api.Brs | api.Esi}:             0,
		{ID: 0x0ABCDEF0, Flags: 9, Len: 0}:              0x8ABCDEF0,
		{ID: 1, Flags: api.Fd, Len: 64, Data: text(64)}: 1,
	}
}

// errorFrames are frames that may be, and tell of errors.
func errorFrames() []api.Frame {
	var l []api.Frame
	for _, id := range []int{0, 1, 2, 4, 128, 291, 2048, 1 << 28, api.Wide} {
		l = append(l, api.Frame{ID: id, Flags: api.Err, Len: 8, Data: text(8)})
	}
	return l
}

// wrongFrames are some that may not be: with each of the flags that a frame may have.
func wrongFrames() []api.Frame {
	return []api.Frame{
		{ID: -1},
		{ID: 2048},
		{ID: 291, Len: 1},
		{ID: 291, Data: "a"},
		{ID: 291, Len: 9, Data: text(9)},
		{ID: 291, Flags: api.Rtr, Len: 1, Data: "a"},
		{ID: 1 << 29, Flags: api.Ext},
		{ID: 1<<32 + 291, Flags: api.Ext},
		{ID: 291, Flags: api.Fd | api.Rtr},
		{ID: 291, Flags: api.Brs},
		{ID: 291, Flags: api.Esi},
		{ID: 291, Flags: 64},
		{ID: 291, Flags: -1},
		{ID: 291, Flags: api.Err},
		{ID: 291, Flags: api.Err, Len: 7, Data: text(7)},
		{ID: 291, Flags: api.Err | api.Ext, Len: 8, Data: text(8)},
		{ID: 291, Flags: api.Err | api.Rtr, Len: 8, Data: text(8)},
		{ID: 291, Flags: api.Err | api.Fd, Len: 8, Data: text(8)},
		{ID: 1 << 29, Flags: api.Err, Len: 8, Data: text(8)},
		{ID: -1, Flags: api.Err, Len: 8, Data: text(8)},
		{ID: math.MinInt, Flags: math.MinInt, Len: math.MinInt},
		{ID: math.MaxInt, Flags: math.MaxInt, Len: math.MaxInt},
	}
}

// P5.1
func TestHit(t *testing.T) {
	for _, c := range []struct {
		f    api.Filter
		w    uint32
		want bool
	}{
		{pass, 0, true},
		{pass, math.MaxUint32, true},
		{block, 0, false},
		{block, math.MaxUint32, false},
		{api.Filter{ID: 256, Mask: 1792}, 255, false},
		{api.Filter{ID: 256, Mask: 1792}, 256, true},
		{api.Filter{ID: 256, Mask: 1792}, 511, true},
		{api.Filter{ID: 256, Mask: 1792}, 512, false},
		{api.Filter{ID: 256, Mask: 1792}, 256 | api.WordExt, true},
		{api.Filter{ID: 256, Mask: 1792, Inv: true}, 255, true},
		{api.Filter{ID: 256, Mask: 1792, Inv: true}, 256, false},
		{api.Filter{ID: 256, Mask: 1792, Inv: true}, 511, false},
		{api.Filter{ID: 256, Mask: 1792, Inv: true}, 512, true},
		// Bits of the ID that the Mask has not don't matter.
		{api.Filter{ID: 511, Mask: 1792}, 256, true},
		{api.Filter{ID: math.MaxUint32, Mask: 0}, 0, true},
		{api.Filter{ID: math.MaxUint32, Mask: 0, Inv: true}, 0, false},
		{api.Filter{ID: api.WordExt, Mask: api.WordExt}, api.WordExt | 5, true},
		{api.Filter{ID: api.WordExt, Mask: api.WordExt}, 5, false},
		{api.Filter{ID: 0, Mask: api.WordExt | api.WordRtr}, api.WordErr, true},
		{api.Filter{ID: 0, Mask: api.WordExt | api.WordRtr}, api.WordRtr, false},
		{api.Filter{ID: 291, Mask: math.MaxUint32}, 291, true},
		{api.Filter{ID: 291, Mask: math.MaxUint32}, 290, false},
	} {
		if got := Hit(c.f, c.w); got != c.want {
			t.Error(c.f, c.w, got)
		}
	}
}

// P5.1: all filters and words of those at the edges; each bit of Mask alone.
func TestHitBits(t *testing.T) {
	for _, f := range filters() {
		for _, w := range words() {
			if got := Hit(f, w); got != hitBits(f, w) {
				t.Fatal(f, w, got)
			}
		}
	}
	for i := range 32 {
		f := api.Filter{ID: 0x12345678, Mask: 1 << i}
		if !Hit(f, 0x12345678) || Hit(f, 0x12345678^1<<i) || !Hit(f, ^uint32(0x12345678)^1<<i) {
			t.Error(i)
		}
	}
}

// P5.2
func TestMatch(t *testing.T) {
	for x, w := range rightFrames() {
		if got := frame.Word(x); got != w {
			t.Fatal(x, got)
		}
		if !Match(pass, x) || Match(block, x) {
			t.Error(x)
		}
		for _, f := range filters() {
			if got := Match(f, x); got != hitBits(f, w) {
				t.Fatal(f, x, got)
			}
		}
	}
}

// P5.2: what may not be, or tells of an error, no filter lets through, of Inv or not.
func TestMatchRefuses(t *testing.T) {
	for _, x := range slices.Concat(wrongFrames(), errorFrames()) {
		for _, f := range append(filters(), pass, block) {
			if Match(f, x) {
				t.Fatal(f, x)
			}
		}
	}
}

// lists are some of filters: in each place one that hits 291 or not, up to four of them.
func lists() [][]api.Filter {
	yes := []api.Filter{pass, {ID: 291, Mask: math.MaxUint32}, {ID: 256, Mask: 1792}, {ID: 5, Mask: math.MaxUint32, Inv: true}}
	no := []api.Filter{block, {ID: 290, Mask: math.MaxUint32}, {ID: 512, Mask: 1792}, {ID: 291, Mask: math.MaxUint32, Inv: true}}
	var all [][]api.Filter
	for n := range 5 {
		for set := range 1 << n {
			var l []api.Filter
			for i := range n {
				if set>>i&1 == 0 {
					l = append(l, no[i])
				} else {
					l = append(l, yes[i])
				}
			}
			all = append(all, l)
		}
	}
	return all
}

// P5.2
func TestAny(t *testing.T) {
	for _, l := range lists() {
		kept := slices.Clone(l)
		for x, w := range rightFrames() {
			one, each := false, len(l) > 0
			for _, f := range l {
				one = one || hitBits(f, w)
				each = each && hitBits(f, w)
			}
			if Any(l, false, x) != one || Any(l, true, x) != each {
				t.Fatal(l, x, one, each)
			}
		}
		if !slices.Equal(l, kept) {
			t.Fatal(l, kept)
		}
	}
}

// P5.2: of no filters no, nil or empty, with join, too.
func TestAnyOfNone(t *testing.T) {
	for x := range rightFrames() {
		for _, join := range []bool{false, true} {
			if Any(nil, join, x) || Any([]api.Filter{}, join, x) {
				t.Error(x, join)
			}
		}
	}
}

// P5.2: more filters than a socket may have.
func TestAnyOfMany(t *testing.T) {
	l := slices.Repeat([]api.Filter{block}, 2*api.MaxList)
	x := api.Frame{ID: 291}
	if Any(l, false, x) || Any(l, true, x) {
		t.Error("none hits")
	}
	l[len(l)-1] = pass
	if !Any(l, false, x) || Any(l, true, x) {
		t.Error("the last one hits")
	}
	l = slices.Repeat([]api.Filter{pass}, 2*api.MaxList)
	if !Any(l, false, x) || !Any(l, true, x) {
		t.Error("each hits")
	}
	l[len(l)-1] = block
	if !Any(l, false, x) || Any(l, true, x) {
		t.Error("the last one doesn't hit")
	}
}

// P5.2
func TestAnyRefuses(t *testing.T) {
	for _, x := range slices.Concat(wrongFrames(), errorFrames()) {
		for _, l := range lists() {
			if Any(l, false, x) || Any(l, true, x) {
				t.Fatal(l, x)
			}
		}
	}
}

// P5.2
func TestTold(t *testing.T) {
	for _, x := range errorFrames() {
		for _, errors := range words() {
			want := false
			for i := range 29 {
				want = want || errors>>i&1 == 1 && x.ID>>i&1 == 1
			}
			if got := Told(errors, x); got != want {
				t.Error(errors, x, got)
			}
		}
	}
	x := api.Frame{ID: 6, Flags: api.Err, Len: 8, Data: text(8)}
	if Told(0, x) || Told(1, x) || !Told(2, x) || !Told(4, x) || !Told(5, x) || Told(8, x) || Told(api.WordErr, x) {
		t.Error(x)
	}
}

// P5.2
func TestToldRefuses(t *testing.T) {
	l := wrongFrames()
	for x := range rightFrames() {
		l = append(l, x)
	}
	for _, x := range l {
		for _, errors := range words() {
			if Told(errors, x) {
				t.Error(errors, x)
			}
		}
	}
}

// P5.3
func TestWitness(t *testing.T) {
	const all = math.MaxUint32
	for _, c := range []struct {
		a, b api.Filter
		w    uint32
		is   bool
	}{
		{api.Filter{ID: 257, Mask: 2047}, api.Filter{ID: 256, Mask: 1792}, 256, true},
		{api.Filter{ID: 256, Mask: 1792}, api.Filter{ID: 257, Mask: 2047}, 0, false},
		{api.Filter{ID: 256, Mask: 2047}, api.Filter{ID: 256, Mask: 1792}, 257, true},
		{pass, pass, 0, false},
		{pass, block, 0, false},
		{block, block, 0, false},
		{block, pass, 0, true},
		{block, api.Filter{ID: 291, Mask: all}, 291, true},
		{pass, api.Filter{ID: 291, Mask: all}, 0, false},
		// What only differs in bits that the Mask has not is the same.
		{api.Filter{ID: 256, Mask: 1792}, api.Filter{ID: 511, Mask: 1792}, 0, false},
		{api.Filter{ID: all}, api.Filter{}, 0, false},
		{api.Filter{ID: all}, api.Filter{ID: all, Mask: 1 << 31}, 0, false},
		// One bit more than the least word that b hits.
		{api.Filter{ID: 0, Mask: all}, pass, 1, true},
		{api.Filter{ID: 0, Mask: 12}, pass, 4, true},
		{api.Filter{ID: 0, Mask: 1 << 31}, pass, 1 << 31, true},
		{api.Filter{ID: 1 << 31, Mask: 1 << 31}, pass, 0, true},
		{api.Filter{ID: 0, Mask: all}, api.Filter{ID: 0, Mask: 1}, 2, true},
		{api.Filter{ID: 0, Mask: all}, api.Filter{ID: 0, Mask: all ^ 1<<31}, 1 << 31, true},
		{api.Filter{ID: 5, Mask: 7}, api.Filter{ID: 5, Mask: 5}, 7, true},
		// Of Inv.
		{pass, api.Filter{ID: 0, Mask: all, Inv: true}, 0, false},
		{block, api.Filter{ID: 0, Mask: all, Inv: true}, 1, true},
		{block, api.Filter{ID: 0, Mask: 1 << 31, Inv: true}, 1 << 31, true},
		{block, api.Filter{ID: 7, Mask: all, Inv: true}, 0, true},
		{api.Filter{ID: 7, Mask: 7, Inv: true}, pass, 7, true},
		{api.Filter{ID: 7, Mask: 7, Inv: true}, api.Filter{ID: 4, Mask: 7}, 0, false},
		{api.Filter{ID: 7, Mask: 7, Inv: true}, api.Filter{ID: 4, Mask: 4}, 7, true},
		{api.Filter{ID: 4, Mask: 4, Inv: true}, api.Filter{ID: 7, Mask: 7, Inv: true}, 4, true},
		{api.Filter{ID: 7, Mask: 7, Inv: true}, api.Filter{ID: 4, Mask: 4, Inv: true}, 0, false},
		// Two bits of which a hits the one and b misses the other.
		{api.Filter{ID: 0, Mask: 1}, api.Filter{ID: 0, Mask: 2, Inv: true}, 3, true},
		{api.Filter{ID: 0, Mask: 1}, api.Filter{ID: 0, Mask: 1, Inv: true}, 1, true},
		{api.Filter{ID: 1, Mask: 1}, api.Filter{ID: 0, Mask: 1, Inv: true}, 0, false},
		{api.Filter{ID: 0, Mask: 1}, api.Filter{ID: 1, Mask: 1, Inv: true}, 0, false},
		{api.Filter{ID: 0, Mask: 1 << 31}, api.Filter{ID: 0, Mask: 1 << 30, Inv: true}, 3 << 30, true},
		{api.Filter{ID: 0, Mask: 1 << 31}, api.Filter{ID: 0, Mask: 1, Inv: true}, 1<<31 | 1, true},
		{api.Filter{ID: 0, Mask: 12}, api.Filter{ID: 0, Mask: 10, Inv: true}, 6, true},
		{api.Filter{ID: 0, Mask: 24}, api.Filter{ID: 0, Mask: 6, Inv: true}, 10, true},
		{api.Filter{ID: 0, Mask: 24}, api.Filter{ID: 1, Mask: 15, Inv: true}, 8, true},
		{api.Filter{ID: 8, Mask: 12}, api.Filter{ID: 0, Mask: 12, Inv: true}, 4, true},
	} {
		if w, is := Witness(c.a, c.b); w != c.w || is != c.is {
			t.Error(c.a, c.b, w, is)
		}
		if got := Covers(c.a, c.b); got == c.is {
			t.Error(c.a, c.b, got)
		}
	}
}

// among are all filters with an ID and a Mask of just these bits.
func among(bits []int) []api.Filter {
	var l []api.Filter
	for _, id := range spread(bits) {
		for _, mask := range spread(bits) {
			l = append(l, api.Filter{ID: id, Mask: mask}, api.Filter{ID: id, Mask: mask, Inv: true})
		}
	}
	return l
}

// spread are all words of just these bits, from the least on.
func spread(bits []int) []uint32 {
	var l []uint32
	for n := range 1 << len(bits) {
		var w uint32
		for i, bit := range bits {
			w |= uint32(n>>i&1) << bit
		}
		l = append(l, w)
	}
	return l
}

// leastOf is the least of these words, which are in order, that b hits and a doesn't, and true; or 0 and false.
func leastOf(l []uint32, a, b api.Filter) (uint32, bool) {
	for _, w := range l {
		if hitBits(b, w) && !hitBits(a, w) {
			return w, true
		}
	}
	return 0, false
}

// P5.3: all filters of three bits, held against all of them, word by word: other bits that no Mask has are 0 in the least one.
func TestWitnessOfFewBits(t *testing.T) {
	for _, bits := range [][]int{{0, 1, 2}, {0, 13, 31}, {29, 30, 31}} {
		for _, a := range among(bits) {
			for _, b := range among(bits) {
				want, is := leastOf(spread(bits), a, b)
				if w, ok := Witness(a, b); w != want || ok != is || Covers(a, b) == is {
					t.Fatal(a, b, w, ok, want, is)
				}
			}
		}
	}
}

// P5.3: some filters of ten bits.
func TestWitnessOfMoreBits(t *testing.T) {
	r := rand.New(rand.NewSource(5))
	bits := []int{0, 1, 5, 7, 10, 11, 18, 28, 30, 31}
	l := spread(bits)
	some := func() api.Filter {
		mask := l[r.Intn(len(l))]
		if r.Intn(2) == 0 {
			mask &= l[r.Intn(len(l))]
		}
		return api.Filter{ID: r.Uint32() & r.Uint32(), Mask: mask, Inv: r.Intn(2) == 0}
	}
	for range 2000 {
		a, b := some(), some()
		if r.Intn(2) == 0 {
			a.ID = b.ID
		}
		want, is := leastOf(l, a, b)
		if w, ok := Witness(a, b); w != want || ok != is || Covers(a, b) == is {
			t.Fatal(a, b, w, ok, want, is)
		}
	}
}

// P5.4
func TestExact(t *testing.T) {
	for x, w := range rightFrames() {
		if got := Exact(x); got != (api.Filter{ID: w, Mask: 0xFFFFFFFF}) {
			t.Error(x, got)
		}
	}
	for _, x := range errorFrames() {
		if got := Exact(x); got != (api.Filter{ID: 0x20000000 | uint32(x.ID), Mask: 0xFFFFFFFF}) {
			t.Error(x, got)
		}
	}
	for _, x := range wrongFrames() {
		if got := Exact(x); got != (api.Filter{}) {
			t.Error(x, got)
		}
	}
}

// P5.5: each filter covers itself.
func TestCoversItself(t *testing.T) {
	for _, f := range filters() {
		if w, is := Witness(f, f); !Covers(f, f) || w != 0 || is {
			t.Fatal(f, w, is)
		}
	}
}

// P5.5: if a covers b, and b c, then a covers c.
func TestCoveringGoesOn(t *testing.T) {
	l := among([]int{0, 13, 31})
	covers := make([][]bool, len(l))
	for i, a := range l {
		for _, b := range l {
			covers[i] = append(covers[i], Covers(a, b))
		}
	}
	for i := range l {
		for j := range l {
			for k := range l {
				if covers[i][j] && covers[j][k] && !covers[i][k] {
					t.Fatal(l[i], l[j], l[k])
				}
			}
		}
	}
}

// P5.5: what covers a filter hits each word that it hits; of what doesn't there is a word that tells.
func TestCoversHits(t *testing.T) {
	l := filters()
	for i, a := range l {
		for j := i % 7; j < len(l); j += 7 {
			b := l[j]
			w, is := Witness(a, b)
			if is == Covers(a, b) || is && (Hit(a, w) || !Hit(b, w)) || !is && w != 0 {
				t.Fatal(a, b, w, is)
			}
			for _, w := range words() {
				if !is && Hit(b, w) && !Hit(a, w) {
					t.Fatal(a, b, w)
				}
			}
		}
	}
}

// P5.6
func TestExactMatchesItsWord(t *testing.T) {
	for x, w := range rightFrames() {
		f := Exact(x)
		for y, v := range rightFrames() {
			if got := Match(f, y); got != (v == w) {
				t.Error(x, y, got)
			}
		}
		for _, y := range slices.Concat(errorFrames(), wrongFrames()) {
			if Match(f, y) {
				t.Error(x, y)
			}
		}
		for i := range 32 {
			if !Hit(f, w) || Hit(f, w^1<<i) {
				t.Error(x, i)
			}
		}
	}
	// Of a frame that tells of an error it lets nothing through, not even it.
	for _, x := range errorFrames() {
		if Match(Exact(x), x) {
			t.Error(x)
		}
	}
}

// P5.7
func TestTurned(t *testing.T) {
	for _, f := range filters() {
		g := f
		g.Inv = !g.Inv
		for _, w := range words() {
			if Hit(f, w) == Hit(g, w) {
				t.Fatal(f, w)
			}
		}
		// Each hits what the other one doesn't: none covers the other one, but if it hits all.
		for _, h := range []api.Filter{f, g} {
			all, none := Covers(h, pass), Covers(block, h)
			o := h
			o.Inv = !o.Inv
			if Covers(h, o) != all || Covers(o, h) != none || all != Covers(block, o) {
				t.Fatal(h, all, none)
			}
		}
	}
}

// P1, P2: calls that answer no leave what later calls answer as it was.
func TestRefusedCallsChangeNothing(t *testing.T) {
	f := api.Filter{ID: 256, Mask: 1792}
	l := []api.Filter{f, pass}
	x := api.Frame{ID: 291, Len: 2, Data: "ab"}
	e := api.Frame{ID: 6, Flags: api.Err, Len: 8, Data: text(8)}
	for range 2 {
		if !Hit(f, 291) || !Match(f, x) || !Any(l, true, x) || !Any(l, false, x) || !Told(2, e) {
			t.Fatal("hit")
		}
		if w, is := Witness(Exact(x), f); w != 256 || !is || !Covers(f, Exact(x)) {
			t.Fatal(w, is)
		}
		for _, y := range wrongFrames() {
			Match(f, y)
			Any(l, true, y)
			Any(l, false, y)
			Told(math.MaxUint32, y)
			Exact(y)
		}
		Hit(f, 0)
		Any(nil, true, x)
		Told(0, e)
		Witness(f, f)
		Covers(block, f)
	}
	if !slices.Equal(l, []api.Filter{f, pass}) {
		t.Fatal(l)
	}
}

// P1: every call ends and none panics, whatever filters, words and frames it is given.
func FuzzCallsEnd(f *testing.F) {
	f.Add(uint32(0), uint32(0), false, uint32(0), uint32(0), false, uint32(0), 0, 0, 0, "")
	f.Add(uint32(256), uint32(1792), false, uint32(257), uint32(2047), true, uint32(291), 291, 0, 2, "ab")
	f.Add(uint32(math.MaxUint32), uint32(math.MaxUint32), true, uint32(0), uint32(1<<31), true, uint32(api.WordErr), 6, api.Err, 8, text(8))
	f.Add(uint32(1), uint32(1), true, uint32(1), uint32(3), true, uint32(1), math.MinInt, -1, math.MaxInt, "\xff")
	f.Fuzz(func(t *testing.T, id, mask uint32, inv bool, id2, mask2 uint32, inv2 bool, w uint32, xid, flags, n int, data string) {
		a, b := api.Filter{ID: id, Mask: mask, Inv: inv}, api.Filter{ID: id2, Mask: mask2, Inv: inv2}
		if Hit(a, w) != hitBits(a, w) || Hit(b, w) != hitBits(b, w) {
			t.Error("Hit")
		}
		x := api.Frame{ID: xid, Flags: flags, Len: n, Data: data}
		right := frame.Right(x) == api.OK
		tells := flags&api.Err != 0
		one, two := hitBits(a, frame.Word(x)), hitBits(b, frame.Word(x))
		if Match(a, x) != (right && !tells && one) || Match(b, x) != (right && !tells && two) {
			t.Error("Match")
		}
		l := []api.Filter{a, b}
		if Any(l, false, x) != (right && !tells && (one || two)) || Any(l, true, x) != (right && !tells && one && two) {
			t.Error("Any")
		}
		if Told(w, x) != (right && tells && int(w)&xid != 0) {
			t.Error("Told")
		}
		least, is := Witness(a, b)
		if is == Covers(a, b) || is && (hitBits(a, least) || !hitBits(b, least)) || !is && least != 0 {
			t.Error("Witness", least, is)
		}
		if hitBits(b, w) && !hitBits(a, w) && (!is || w < least) {
			t.Error("Witness", least, is, w)
		}
		// Nothing below the least word does, not even if all its bits but one are kept, and those below turned.
		for i := range 32 {
			if v := least &^ (1<<i - 1) &^ (1 << i); is && v < least && hitBits(b, v) && !hitBits(a, v) {
				t.Error("Witness", least, v)
			}
		}
		exact := Exact(x)
		if right && exact != (api.Filter{ID: frame.Word(x), Mask: math.MaxUint32}) || !right && exact != (api.Filter{}) {
			t.Error("Exact", exact)
		}
	})
}
