package echo

import (
	"maps"
	"math"
	"math/rand"
	"slices"
	"testing"
	"time"

	"signalbox/api"
)

// packet is one with this number.
func packet(tag int) api.Packet {
	return api.Packet{Frame: api.Frame{ID: tag & 7}, Tag: tag}
}

// odd are packets of which most have frames that may not be: the table takes them all, that of zero, too.
func odd() []api.Packet {
	return []api.Packet{
		{},
		{Loop: true},
		{From: -1},
		{From: math.MaxInt, Tag: math.MinInt, Loop: true},
		{Frame: api.Frame{ID: -1}},
		{Frame: api.Frame{ID: math.MaxInt, Flags: math.MinInt, Len: -1, Data: "abc"}},
		{Frame: api.Frame{Flags: api.Err, Len: 8, Data: "12345678"}, Tag: 7},
		{Frame: api.Frame{ID: 5, Len: 2, Data: "ab"}, From: 3, Tag: 9, Loop: true},
	}
}

// bounds are numbers of places, and places, of all kinds.
func bounds() []int {
	return []int{math.MinInt, -1 << 32, -1000, -2, -1, 0, 1, 2, 3, 10, 999, 1000, 1001, 2000, 1 << 32, 1<<32 + 5, math.MaxInt}
}

// outside are places that a table of so many has not.
func outside(many int) []int {
	return []int{math.MinInt, -1 << 32, -many, -2, -1, many, many + 1, 2 * many, 1 << 32, math.MaxInt}
}

// model is a table told otherwise than by the program: a map of what stands there.
type model struct {
	many  int
	there map[int]api.Packet
}

func newModel(many int) *model {
	if many < 1 {
		many = 1
	}
	if many > 1000 {
		many = 1000
	}
	return &model{many, map[int]api.Packet{}}
}

func (m *model) put(box int, p api.Packet) api.Errno {
	if box < 0 || box > m.many-1 {
		return api.ErrArg
	}
	if _, is := m.there[box]; is {
		return api.ErrFull
	}
	m.there[box] = p
	return api.OK
}

func (m *model) get(box int) (api.Packet, api.Errno) {
	if box < 0 || box > m.many-1 {
		return api.Packet{}, api.ErrArg
	}
	p, is := m.there[box]
	if !is {
		return api.Packet{}, api.ErrEmpty
	}
	delete(m.there, box)
	return p, api.OK
}

func (m *model) flush() []api.Packet {
	var all []api.Packet
	for _, box := range slices.Sorted(maps.Keys(m.there)) {
		all = append(all, m.there[box])
	}
	m.there = map[int]api.Packet{}
	return all
}

// same fails if the table and the model tell unlike things.
func same(t *testing.T, x *Table, m *model) {
	t.Helper()
	if x.Len() != len(m.there) {
		t.Fatalf("Len %d, not %d", x.Len(), len(m.there))
	}
	for box := -2; box < m.many+2; box++ {
		p, is := x.Peek(box)
		if want, wantIs := m.there[box]; p != want || is != wantIs {
			t.Fatalf("Peek(%d): %+v, %v; not %+v, %v", box, p, is, want, wantIs)
		}
	}
}

// put fails if the packet is not taken.
func put(t *testing.T, x *Table, box int, p api.Packet) {
	t.Helper()
	if e := x.Put(box, p); e != api.OK {
		t.Fatalf("Put(%d, %+v): %d", box, p, e)
	}
}

// refused fails if the packet is taken, or refused otherwise.
func refused(t *testing.T, x *Table, box int, want api.Errno) {
	t.Helper()
	for _, p := range []api.Packet{{}, packet(77)} {
		if e := x.Put(box, p); e != want {
			t.Fatalf("Put(%d, %+v): %d, not %d", box, p, e, want)
		}
	}
}

// get fails if another one is got, or none.
func get(t *testing.T, x *Table, box int, want api.Packet) {
	t.Helper()
	if p, e := x.Get(box); p != want || e != api.OK {
		t.Fatalf("Get(%d): %+v, %d; not %+v", box, p, e, want)
	}
}

// none fails if something is got, or it is refused otherwise.
func none(t *testing.T, x *Table, box int, want api.Errno) {
	t.Helper()
	if p, e := x.Get(box); p != (api.Packet{}) || e != want {
		t.Fatalf("Get(%d): %+v, %d; not %d", box, p, e, want)
	}
}

// stands fails if something else stands there, or nothing.
func stands(t *testing.T, x *Table, box int, want api.Packet) {
	t.Helper()
	if p, is := x.Peek(box); p != want || !is {
		t.Fatalf("Peek(%d): %+v, %v; not %+v", box, p, is, want)
	}
}

// empty fails if something stands there.
func empty(t *testing.T, x *Table, box int) {
	t.Helper()
	if p, is := x.Peek(box); p != (api.Packet{}) || is {
		t.Fatalf("Peek(%d): %+v, %v", box, p, is)
	}
}

// flush fails if others are told, or in another order, or something is left.
func flush(t *testing.T, x *Table, want ...api.Packet) {
	t.Helper()
	if got := x.Flush(); !slices.Equal(got, want) {
		t.Fatalf("Flush: %+v, not %+v", got, want)
	}
	if n := x.Len(); n != 0 {
		t.Fatalf("Len %d", n)
	}
}

// P16.1: New has so many places, 1 at least, api.MaxRoom at most, from 0 on, and no others
func TestNewPlaces(t *testing.T) {
	for _, many := range bounds() {
		x, want := New(many), min(max(many, 1), 1000)
		if x == nil {
			t.Fatalf("New(%d): nil", many)
		}
		for range 2 {
			for _, box := range outside(want) {
				refused(t, x, box, api.ErrArg)
				none(t, x, box, api.ErrArg)
				empty(t, x, box)
			}
			for box := range want {
				put(t, x, box, packet(box))
			}
			if n := x.Len(); n != want {
				t.Fatalf("New(%d): Len %d, not %d", many, n, want)
			}
			for _, box := range outside(want) {
				refused(t, x, box, api.ErrArg)
				none(t, x, box, api.ErrArg)
				empty(t, x, box)
			}
			if n := x.Len(); n != want {
				t.Fatalf("New(%d): Len %d, not %d", many, n, want)
			}
			for box, p := range x.Flush() {
				if p != packet(box) {
					t.Fatalf("New(%d): %+v at %d", many, p, box)
				}
			}
		}
	}
}

// P16.1: all of its places are empty
func TestNewEmpty(t *testing.T) {
	for _, many := range bounds() {
		x := New(many)
		if n := x.Len(); n != 0 {
			t.Fatalf("New(%d): Len %d", many, n)
		}
		for box := range min(max(many, 1), 1000) {
			empty(t, x, box)
			none(t, x, box, api.ErrEmpty)
		}
		flush(t, x)
	}
}

// P16.2: where something stands, nothing else is put, and it stays
func TestPut(t *testing.T) {
	x := New(3)
	put(t, x, 1, packet(5))
	for range 2 {
		refused(t, x, 1, api.ErrFull)
		stands(t, x, 1, packet(5))
		empty(t, x, 0)
		empty(t, x, 2)
	}
	put(t, x, 2, packet(6))
	put(t, x, 0, packet(7))
	for box := range 3 {
		refused(t, x, box, api.ErrFull)
	}
	refused(t, x, -1, api.ErrArg)
	refused(t, x, 3, api.ErrArg)
	// Once it is got, or flushed, there is room again.
	get(t, x, 1, packet(5))
	put(t, x, 1, packet(8))
	refused(t, x, 1, api.ErrFull)
	flush(t, x, packet(7), packet(8), packet(6))
	put(t, x, 1, packet(9))
	refused(t, x, 1, api.ErrFull)
	get(t, x, 1, packet(9))
}

// P16.2: all packets are taken, whatever their frames, and come out as they were; one of zero is something that stands there, too
func TestPutAny(t *testing.T) {
	for _, p := range odd() {
		x := New(2)
		put(t, x, 1, p)
		refused(t, x, 1, api.ErrFull)
		stands(t, x, 1, p)
		if x.Len() != 1 {
			t.Fatal(p, x.Len())
		}
		get(t, x, 1, p)
		none(t, x, 1, api.ErrEmpty)
		// The same one may stand at several places.
		put(t, x, 0, p)
		put(t, x, 1, p)
		flush(t, x, p, p)
	}
}

// P16.3: what stands there is got once, then it is empty
func TestGet(t *testing.T) {
	x := New(4)
	for box := range 4 {
		none(t, x, box, api.ErrEmpty)
	}
	put(t, x, 3, packet(1))
	put(t, x, 0, packet(2))
	none(t, x, 1, api.ErrEmpty)
	none(t, x, 2, api.ErrEmpty)
	none(t, x, -1, api.ErrArg)
	none(t, x, 4, api.ErrArg)
	get(t, x, 3, packet(1))
	none(t, x, 3, api.ErrEmpty)
	none(t, x, 3, api.ErrEmpty)
	empty(t, x, 3)
	get(t, x, 0, packet(2))
	for box := range 4 {
		none(t, x, box, api.ErrEmpty)
	}
	put(t, x, 3, packet(3))
	get(t, x, 3, packet(3))
	none(t, x, 3, api.ErrEmpty)
}

// P16.4: Peek tells what stands there, where it stays; zero and false of what is empty, or no place
func TestPeek(t *testing.T) {
	x := New(3)
	put(t, x, 1, packet(4))
	for range 3 {
		stands(t, x, 1, packet(4))
		empty(t, x, 0)
		empty(t, x, 2)
		for _, box := range outside(3) {
			empty(t, x, box)
		}
	}
	if x.Len() != 1 {
		t.Fatal(x.Len())
	}
	get(t, x, 1, packet(4))
	empty(t, x, 1)
	put(t, x, 1, packet(5))
	stands(t, x, 1, packet(5))
	flush(t, x, packet(5))
	empty(t, x, 1)
}

// P16.4: Len is how many places are not empty, whichever they are
func TestLen(t *testing.T) {
	for set := range 64 {
		x, want := New(6), 0
		for box := range 6 {
			if set>>box&1 == 1 {
				put(t, x, box, api.Packet{})
				want++
			}
			if n := x.Len(); n != want {
				t.Fatalf("%06b: Len %d, not %d", set, n, want)
			}
		}
		for box := range 6 {
			if _, e := x.Get(box); e == api.OK {
				want--
			}
			if n := x.Len(); n != want {
				t.Fatalf("%06b: Len %d, not %d", set, n, want)
			}
		}
	}
}

// P16.4: Flush tells what stands there by places, rising, in whatever order it was put, and leaves all empty
func TestFlush(t *testing.T) {
	x := New(5)
	flush(t, x)
	for _, box := range []int{3, 0, 4, 1} {
		put(t, x, box, packet(10-box))
	}
	flush(t, x, packet(10), packet(9), packet(7), packet(6))
	flush(t, x)
	for box := range 5 {
		empty(t, x, box)
		none(t, x, box, api.ErrEmpty)
		put(t, x, box, packet(box))
	}
	get(t, x, 2, packet(2))
	flush(t, x, packet(0), packet(1), packet(3), packet(4))
	put(t, x, 4, packet(1))
	flush(t, x, packet(1))
}

// P16.4: of whichever places of a few
func TestFlushAllWays(t *testing.T) {
	for set := range 64 {
		x := New(6)
		var want []api.Packet
		for box := 5; box >= 0; box-- {
			if set>>box&1 == 1 {
				put(t, x, box, packet(9-box))
				want = append([]api.Packet{packet(9 - box)}, want...)
			}
		}
		flush(t, x, want...)
		for box := range 6 {
			empty(t, x, box)
			put(t, x, box, packet(box))
		}
	}
}

// P16.2 to P16.4: nil
func TestNil(t *testing.T) {
	var x *Table
	for range 2 {
		for _, box := range bounds() {
			for _, p := range odd() {
				if e := x.Put(box, p); e != api.ErrNil {
					t.Fatal(box, p, e)
				}
			}
			none(t, x, box, api.ErrNil)
			empty(t, x, box)
		}
		flush(t, x)
	}
}

// P1: a table that New did not make has no places, and no call of it panics
func TestZeroTable(t *testing.T) {
	var x Table
	for range 2 {
		for _, box := range bounds() {
			refused(t, &x, box, api.ErrArg)
			none(t, &x, box, api.ErrArg)
			empty(t, &x, box)
		}
		flush(t, &x)
	}
}

// step is a call of both the table and the model, and fails if they answer unlike things.
func step(t *testing.T, random *rand.Rand, x *Table, m *model, tag, puts int) {
	t.Helper()
	box := random.Intn(m.many+2) - 1
	switch what := random.Intn(40); {
	case what < puts:
		p := odd()[random.Intn(len(odd()))]
		if random.Intn(4) > 0 {
			p.Tag = tag
		}
		if e, want := x.Put(box, p), m.put(box, p); e != want {
			t.Fatalf("Put(%d, %+v): %d, not %d", box, p, e, want)
		}
	case what < 39:
		p, e := x.Get(box)
		if wantP, want := m.get(box); p != wantP || e != want {
			t.Fatalf("Get(%d): %+v, %d; not %+v, %d", box, p, e, wantP, want)
		}
	case random.Intn(4) == 0:
		if got, want := x.Flush(), m.flush(); !slices.Equal(got, want) {
			t.Fatalf("Flush: %+v, not %+v", got, want)
		}
	}
}

// P16.1 to P16.4: long ways of tables, by chance
func TestLongWays(t *testing.T) {
	random := rand.New(rand.NewSource(165))
	for n := range 200 {
		many := random.Intn(12) - 1
		if n%20 == 0 {
			many = 50 + random.Intn(100)
		}
		x, m := New(many), newModel(many)
		same(t, x, m)
		puts := []int{8, 20, 28, 36}[n%4]
		for tag := range 1000 {
			step(t, random, x, m, tag, puts)
			same(t, x, m)
		}
	}
}

// P16.1 to P16.4: all short ways of small tables
func TestShortWays(t *testing.T) {
	const kinds, steps = 7, 5
	ways := 1
	for range steps {
		ways *= kinds
	}
	for many := 1; many <= 3; many++ {
		for way := range ways {
			x, m := New(many), newModel(many)
			for n, w := 0, way; n < steps; n, w = n+1, w/kinds {
				switch what := w % kinds; what {
				case 0, 1, 2:
					if e, want := x.Put(what, packet(n)), m.put(what, packet(n)); e != want {
						t.Fatal(many, way, e, want)
					}
				case 3, 4, 5:
					p, e := x.Get(what - 3)
					if wantP, want := m.get(what - 3); p != wantP || e != want {
						t.Fatal(many, way, p, e)
					}
				case 6:
					if got, want := x.Flush(), m.flush(); !slices.Equal(got, want) {
						t.Fatal(many, way, got, want)
					}
				}
				same(t, x, m)
			}
		}
	}
}

// P16.5: what is got is what was put there last, each once
func TestEachOnce(t *testing.T) {
	random := rand.New(rand.NewSource(166))
	put, got := 0, 0
	for range 100 {
		many := random.Intn(8) + 1
		x := New(many)
		last := make([]int, many) // the number of what was put there last
		seen := map[int]bool{}    // the numbers of what was got, or flushed
		out := func(box, tag int) {
			if tag != last[box] || seen[tag] {
				t.Fatalf("%d is got at %d, where %d was put last; got already: %v", tag, box, last[box], seen[tag])
			}
			seen[tag] = true
			got++
		}
		for n := 1; n <= 500; n++ {
			box := random.Intn(many)
			switch random.Intn(3) {
			case 0:
				if x.Put(box, packet(n)) == api.OK {
					last[box] = n
					put++
				}
			case 1:
				if p, e := x.Get(box); e == api.OK {
					out(box, p.Tag)
				}
			case 2:
				if p, is := x.Peek(box); is != (last[box] > 0 && !seen[last[box]]) || is && p != packet(last[box]) {
					t.Fatalf("Peek(%d): %+v, %v; %d was put last", box, p, is, last[box])
				}
			}
		}
		for _, p := range x.Flush() {
			out(slices.Index(last, p.Tag), p.Tag)
		}
		if put != got {
			t.Fatalf("%d were put, %d got", put, got)
		}
	}
	if got < 5000 {
		t.Fatal(got)
	}
}

// P16.5: what is done at one place can't be told at another one
func TestPlacesApart(t *testing.T) {
	for box := range 7 {
		for other := range 7 {
			if box == other {
				continue
			}
			x := New(7)
			put(t, x, other, packet(1))
			none(t, x, box, api.ErrEmpty)
			put(t, x, box, packet(2))
			refused(t, x, box, api.ErrFull)
			stands(t, x, other, packet(1))
			get(t, x, box, packet(2))
			stands(t, x, other, packet(1))
			put(t, x, box, packet(3))
			get(t, x, other, packet(1))
			stands(t, x, box, packet(3))
			for rest := range 7 {
				if rest != box {
					empty(t, x, rest)
				}
			}
			flush(t, x, packet(3))
		}
	}
}

// Rule 3: what is handed out is the caller's own, what is handed in is not changed, and two tables share nothing
func TestOwn(t *testing.T) {
	x, other := New(3), New(3)
	p := packet(1)
	put(t, x, 0, p)
	put(t, x, 1, p)
	p.Tag, p.Frame.Data = 9, "z"
	stands(t, x, 0, packet(1))
	q, _ := x.Peek(0)
	q.Tag, q.Frame.ID = 8, 5
	stands(t, x, 0, packet(1))
	stands(t, x, 1, packet(1))
	first := x.Flush()
	first[0] = packet(7)
	_ = append(first[:1], packet(6))
	put(t, x, 0, packet(2))
	put(t, x, 1, packet(3))
	_ = append(first, packet(5))
	second := x.Flush()
	if !slices.Equal(first, []api.Packet{packet(7), packet(6)}) || !slices.Equal(second, []api.Packet{packet(2), packet(3)}) {
		t.Fatal(first, second)
	}
	put(t, x, 2, packet(4))
	if other.Len() != 0 {
		t.Fatal(other.Len())
	}
	flush(t, other)
	stands(t, x, 2, packet(4))
}

// What was got, or flushed, is not kept.
func TestNothingKept(t *testing.T) {
	x := New(4)
	for n := range 1000 {
		put(t, x, n%4, packet(n))
		if n%2 == 0 {
			get(t, x, n%4, packet(n))
		} else {
			flush(t, x, packet(n))
		}
		for box, p := range x.places {
			if p != nil {
				t.Fatal(n, box, *p)
			}
		}
	}
	if len(x.places) != 4 || cap(x.places) > 8 {
		t.Fatal(len(x.places), cap(x.places))
	}
}

// P1: many calls end soon, though there are as many places as may be
func TestGreat(t *testing.T) {
	begun := time.Now()
	x := New(api.MaxRoom)
	for box := range 1000 {
		put(t, x, box, packet(box))
	}
	for n := range 200000 {
		box := n * 7 % 1000
		p, e := x.Get(box)
		if e != api.OK || p.Tag != box || x.Put(box, p) != api.OK {
			t.Fatal(n, p, e)
		}
		if n%100 == 0 && x.Len() != 1000 {
			t.Fatal(n, x.Len())
		}
	}
	if l := x.Flush(); len(l) != 1000 {
		t.Fatal(len(l))
	}
	if n := time.Since(begun); n > 20*time.Second {
		t.Error(n)
	}
}

// P2: calls that are refused, and those that ask, change nothing that a later one could tell.
func TestRefusedCallsChangeNothing(t *testing.T) {
	random := rand.New(rand.NewSource(2))
	for many := 1; many <= 8; many++ {
		x, m := New(many), newModel(many)
		for tag := range 500 {
			for _, box := range outside(many) {
				refused(t, x, box, api.ErrArg)
				none(t, x, box, api.ErrArg)
				empty(t, x, box)
			}
			for box := range many {
				if _, is := m.there[box]; is {
					refused(t, x, box, api.ErrFull)
				} else {
					none(t, x, box, api.ErrEmpty)
				}
			}
			same(t, x, m)
			step(t, random, x, m, tag, 20)
			same(t, x, m)
		}
	}
}

// The chapter's example.
func TestExample(t *testing.T) {
	x := New(1)
	put(t, x, 0, packet('a'))
	if e := x.Put(0, packet('b')); e != api.ErrFull {
		t.Fatal(e)
	}
	get(t, x, 0, packet('a'))
	none(t, x, 0, api.ErrEmpty)
}

// P1: all calls end, at all arguments, and hold together.
func FuzzCallsEnd(f *testing.F) {
	f.Add(2, "pqPQgGfpg", 0, 5, 0, 0, "", 0, 0)
	f.Add(0, "pqpqgh", -1, 1, 1, 8, "12345678", -1, 5)
	f.Add(math.MaxInt, "ppqfqg", math.MaxInt, math.MaxInt, 63, -1, "a", math.MaxInt, math.MaxInt)
	f.Add(math.MinInt, "gqpg", math.MinInt, -1, -1, math.MinInt, "", math.MinInt, math.MinInt)
	f.Fuzz(func(t *testing.T, many int, way string, at, id, flags, n int, data string, from, tag int) {
		x, m := New(many), newModel(many)
		for i, what := range []byte(way) {
			box, p := int(what>>3)-1, packet(i)
			switch what & 7 {
			case 2, 3:
				box, p = at, api.Packet{Frame: api.Frame{ID: id, Flags: flags, Len: n, Data: data}, From: from, Tag: tag, Loop: i&1 == 0}
				fallthrough
			case 0, 1:
				if e, want := x.Put(box, p), m.put(box, p); e != want {
					t.Fatalf("Put(%d, %+v): %d, not %d", box, p, e, want)
				}
			case 4:
				if got, want := x.Flush(), m.flush(); !slices.Equal(got, want) {
					t.Fatal(got, want)
				}
			case 5:
				box = at
				fallthrough
			default:
				p, e := x.Get(box)
				if wantP, want := m.get(box); p != wantP || e != want {
					t.Fatal(p, e, wantP, want)
				}
			}
			if i < 50 {
				same(t, x, m)
			}
		}
		same(t, x, m)
	})
}
