package box

import (
	"math"
	"math/rand"
	"slices"
	"testing"
	"time"

	"signalbox/api"
	"signalbox/frame"
)

// packet is one with a frame of this ID, and this number.
func packet(id, tag int) api.Packet {
	return api.Packet{Frame: api.Frame{ID: id}, Tag: tag}
}

// keyless are frames that have no key: those that tell of errors, and those that may not be.
func keyless() []api.Frame {
	return []api.Frame{
		{Flags: api.Err, Len: 8, Data: "12345678"},
		{ID: api.Wide, Flags: api.Err, Len: 8, Data: "12345678"},
		{Flags: api.Err},
		{ID: -1},
		{ID: 2048},
		{ID: 1 << 29, Flags: api.Ext},
		{ID: math.MaxInt},
		{ID: math.MinInt},
		{Len: 1},
		{Data: "a"},
		{Len: 9, Data: "123456789"},
		{Flags: api.Rtr, Len: 1, Data: "a"},
		{Flags: api.Rtr | api.Fd},
		{Flags: api.Brs},
		{Flags: 64},
		{Flags: -1},
	}
}

// rising are frames of which each has a greater key than the one ahead.
func rising() []api.Frame {
	return []api.Frame{
		{},
		{Flags: api.Fd, Len: 12, Data: "123456789012"},
		{Flags: api.Rtr, Len: 3},
		{Flags: api.Ext},
		{Flags: api.Ext | api.Fd | api.Brs | api.Esi},
		{Flags: api.Ext | api.Rtr, Len: 8},
		{ID: 1, Flags: api.Ext, Len: 1, Data: "\xff"},
		{ID: 1<<18 - 1, Flags: api.Ext},
		{ID: 1, Len: 2, Data: "ab"},
		{ID: 1, Flags: api.Rtr},
		{ID: 1 << 18, Flags: api.Ext},
		{ID: 2},
		{ID: api.Narrow},
		{ID: api.Wide, Flags: api.Ext | api.Rtr},
	}
}

// held is what a model knows of a mailbox.
type held struct {
	state  int
	packet api.Packet
	put    int // the number of the step in which it was put, and in which it ended
	ended  int
}

// model are mailboxes told otherwise than by the program: all are gone through each time.
type model struct {
	all  []held
	step int
}

func newModel(many int) *model {
	if many < 1 {
		many = 1
	}
	if many > 1000 {
		many = 1000
	}
	return &model{all: make([]held, many)}
}

func (m *model) put(p api.Packet) (int, api.Errno) {
	m.step++
	if frame.Key(p.Frame) == -1 {
		return 0, api.ErrFrame
	}
	for n := range m.all {
		if m.all[n].state == 0 {
			m.all[n] = held{state: 1, packet: p, put: m.step}
			return n, api.OK
		}
	}
	return 0, api.ErrFull
}

func (m *model) best() (int, api.Packet, bool) {
	best := -1
	for n, h := range m.all {
		if h.state != 1 {
			continue
		}
		if best < 0 {
			best = n
			continue
		}
		old, key := frame.Key(m.all[best].packet.Frame), frame.Key(h.packet.Frame)
		if key < old || key == old && h.put < m.all[best].put {
			best = n
		}
	}
	if best < 0 {
		return 0, api.Packet{}, false
	}
	return best, m.all[best].packet, true
}

func (m *model) end(n, state int) api.Errno {
	m.step++
	if n < 0 || n > len(m.all)-1 || m.all[n].state != 1 {
		return api.ErrArg
	}
	m.all[n].state, m.all[n].ended = state, m.step
	return api.OK
}

func (m *model) take() (Done, api.Errno) {
	first := -1
	for n, h := range m.all {
		if h.state >= 2 && (first < 0 || h.ended < m.all[first].ended) {
			first = n
		}
	}
	if first < 0 {
		return Done{}, api.ErrEmpty
	}
	h := m.all[first]
	m.all[first] = held{}
	return Done{first, h.packet, h.state == 2}, api.OK
}

// states are the states, and how many are free.
func (m *model) states() ([]int, int) {
	var l []int
	free := 0
	for _, h := range m.all {
		l = append(l, h.state)
		if h.state == 0 {
			free++
		}
	}
	return l, free
}

// same fails if the mailboxes and the model tell unlike things.
func same(t *testing.T, b *Boxes, m *model) {
	t.Helper()
	states, free := m.states()
	if got := b.States(); !slices.Equal(got, states) || b.Free() != free {
		t.Fatalf("States %v, Free %d; not %v, %d", got, b.Free(), states, free)
	}
	n, p, is := b.Best()
	if wantN, wantP, want := m.best(); n != wantN || p != wantP || is != want {
		t.Fatalf("Best %d, %+v, %v; not %d, %+v, %v", n, p, is, wantN, wantP, want)
	}
}

// put fails if the packets are not taken, or not by the mailbox that is wanted.
func put(t *testing.T, b *Boxes, want int, p api.Packet) {
	t.Helper()
	if n, e := b.Put(p); n != want || e != api.OK {
		t.Fatalf("Put %+v: %d, %d; not %d", p, n, e, want)
	}
}

// best fails if another mailbox is the best one, or none.
func best(t *testing.T, b *Boxes, want int, p api.Packet) {
	t.Helper()
	if n, q, is := b.Best(); n != want || q != p || !is {
		t.Fatalf("Best %d, %+v, %v; not %d, %+v", n, q, is, want, p)
	}
}

// none fails if one is ready.
func none(t *testing.T, b *Boxes) {
	t.Helper()
	if n, p, is := b.Best(); n != 0 || p != (api.Packet{}) || is {
		t.Fatalf("Best %d, %+v, %v", n, p, is)
	}
}

// take fails if another one is taken, or none.
func take(t *testing.T, b *Boxes, want Done) {
	t.Helper()
	if d, e := b.Take(); d != want || e != api.OK {
		t.Fatalf("Take %+v, %d; not %+v", d, e, want)
	}
}

// empty fails if one has ended.
func empty(t *testing.T, b *Boxes) {
	t.Helper()
	if d, e := b.Take(); d != (Done{}) || e != api.ErrEmpty {
		t.Fatalf("Take %+v, %d", d, e)
	}
}

// ok fails if a call was refused.
func ok(t *testing.T, e api.Errno) {
	t.Helper()
	if e != api.OK {
		t.Fatal(e)
	}
}

// states fails if the states are others.
func states(t *testing.T, b *Boxes, want ...int) {
	t.Helper()
	if got := b.States(); !slices.Equal(got, want) {
		t.Fatalf("States %v, not %v", got, want)
	}
}

// P13.1: New
func TestNew(t *testing.T) {
	counts := []int{math.MinInt, -1000, 999, 1000, 1001, 1002, 2000, 1 << 32, 1<<32 + 5, math.MaxInt}
	for n := -20; n <= 70; n++ {
		counts = append(counts, n)
	}
	for _, n := range counts {
		b, want := New(n), min(max(n, 1), 1000)
		if b == nil || len(b.States()) != want || b.Free() != want {
			t.Fatalf("New(%d): %v, Free %d", n, b.States(), b.Free())
		}
		for at, s := range b.States() {
			if s != 0 {
				t.Fatalf("New(%d): %d is %d", n, at, s)
			}
		}
		none(t, b)
		empty(t, b)
		// So many are taken, and not one more.
		for at := range want {
			put(t, b, at, packet(at, at))
		}
		if at, e := b.Put(packet(0, 0)); at != 0 || e != api.ErrFull {
			t.Fatalf("New(%d): one more: %d, %d", n, at, e)
		}
	}
}

// P13.2: a frame without a key is refused, if none is free, too, and others are not, whatever else the packet has
func TestPutFrame(t *testing.T) {
	b := New(2)
	for n := range 3 {
		for _, f := range keyless() {
			if at, e := b.Put(api.Packet{Frame: f, From: 1, Tag: 2, Loop: true}); at != 0 || e != api.ErrFrame {
				t.Errorf("%d are put: Put %+v: %d, %d", n, f, at, e)
			}
		}
		if b.Free() != 2-n {
			t.Fatalf("%d are put: Free %d", n, b.Free())
		}
		if n < 2 {
			put(t, b, n, packet(5, n))
		}
	}
	for _, f := range rising() {
		for _, p := range []api.Packet{
			{Frame: f},
			{Frame: f, From: -1, Tag: math.MinInt},
			{Frame: f, From: math.MaxInt, Tag: math.MaxInt, Loop: true},
			{Frame: f, From: 7, Tag: -9, Loop: true},
		} {
			b := New(1)
			put(t, b, 0, p)
			best(t, b, 0, p)
			ok(t, b.Sent(0))
			take(t, b, Done{0, p, true})
		}
	}
}

// P13.2: what is full refuses, till one is free; what has ended is not free, as long as it isn't taken
func TestPutFull(t *testing.T) {
	for many := 1; many <= 9; many++ {
		b := New(many)
		for n := range many {
			put(t, b, n, packet(n, n))
		}
		full := func() {
			t.Helper()
			for _, id := range []int{0, 5, api.Narrow} {
				if n, e := b.Put(packet(id, 99)); n != 0 || e != api.ErrFull {
					t.Fatalf("%d: Put: %d, %d", many, n, e)
				}
			}
			if b.Free() != 0 {
				t.Fatalf("%d: Free %d", many, b.Free())
			}
		}
		full()
		ok(t, b.Sent(many-1))
		full()
		if many > 1 {
			ok(t, b.Abort(0))
			full()
		}
		take(t, b, Done{many - 1, packet(many-1, many-1), true})
		put(t, b, many-1, packet(1, 7))
		full()
	}
}

// P13.2: of those that are free the least number is taken, in whatever order they got free
func TestPutLeast(t *testing.T) {
	const many = 6
	for way := range 1 << many {
		for _, up := range []bool{true, false} {
			b := New(many)
			for n := range many {
				put(t, b, n, packet(n, n))
			}
			var freed []int
			for n := range many {
				at := n
				if !up {
					at = many - 1 - n
				}
				if way>>at&1 == 1 {
					ok(t, b.Abort(at))
					take(t, b, Done{at, packet(at, at), false})
					freed = append(freed, at)
				}
			}
			slices.Sort(freed)
			for i, at := range freed {
				if b.Free() != len(freed)-i || b.States()[at] != 0 {
					t.Fatal(way, at, b.States())
				}
				put(t, b, at, packet(9-i, 9))
				if b.States()[at] != 1 {
					t.Fatal(way, at, b.States())
				}
			}
			if _, e := b.Put(packet(0, 0)); e != api.ErrFull {
				t.Fatal(way, e)
			}
		}
	}
}

// P13.3: the least key goes first, by layer 2, not by IDs, in whatever order and wherever they were put
func TestBestByKey(t *testing.T) {
	l := rising()
	for turn := range l {
		for _, step := range []int{1, 3, len(l) - 1} {
			b := New(len(l))
			at := make([]int, len(l))
			for n := range l {
				which := (turn + n*step) % len(l)
				at[which] = n
				put(t, b, n, api.Packet{Frame: l[which], Tag: which})
			}
			for which, f := range l {
				best(t, b, at[which], api.Packet{Frame: f, Tag: which})
				ok(t, b.Sent(at[which]))
			}
			none(t, b)
		}
	}
}

// P13.3: of one key the one that was put first is the best, though its number be the greater one, and whatever its data, and what else has no part in a key
func TestBestOfOneKey(t *testing.T) {
	b := New(4)
	for n := range 4 {
		put(t, b, n, packet(5, n))
	}
	best(t, b, 0, packet(5, 0))
	for _, n := range []int{1, 0} {
		ok(t, b.Sent(n))
		take(t, b, Done{n, packet(5, n), true})
	}
	put(t, b, 0, packet(5, 10))
	put(t, b, 1, packet(5, 11))
	for _, p := range []struct{ at, tag int }{{2, 2}, {3, 3}, {0, 10}, {1, 11}} {
		best(t, b, p.at, packet(5, p.tag))
		ok(t, b.Abort(p.at))
	}
	none(t, b)

	like := []api.Frame{
		{ID: 5, Flags: api.Fd | api.Brs | api.Esi, Len: 2, Data: "zz"},
		{ID: 5, Flags: api.Fd},
		{ID: 5, Flags: api.Fd | api.Brs, Len: 64, Data: string(make([]byte, 64))},
		{ID: 5, Flags: api.Fd | api.Esi, Len: 1, Data: "a"},
	}
	for turn := range like {
		b := New(5)
		// A mailbox with a greater number than all that come behind it.
		for n := range 5 {
			put(t, b, n, packet(1, n))
		}
		for _, n := range []int{4, 3, 2, 1, 0} {
			ok(t, b.Abort(n))
			take(t, b, Done{n, packet(1, n), false})
			if n == 4 {
				put(t, b, 4, api.Packet{Frame: like[turn], Tag: 9, From: 9, Loop: true})
			}
		}
		for n := range like {
			put(t, b, n, api.Packet{Frame: like[(turn+n)%4], Tag: -n, From: -n})
		}
		best(t, b, 4, api.Packet{Frame: like[turn], Tag: 9, From: 9, Loop: true})
		ok(t, b.Sent(4))
		for n := range like {
			best(t, b, n, api.Packet{Frame: like[(turn+n)%4], Tag: -n, From: -n})
			ok(t, b.Sent(n))
		}
	}
}

// P13.3: only those that are ready count; who is asked changes nothing; number 0 and a zero packet are told with true, unlike none
func TestBestOfReady(t *testing.T) {
	b := New(3)
	none(t, b)
	put(t, b, 0, api.Packet{})
	for range 3 {
		best(t, b, 0, api.Packet{})
	}
	put(t, b, 1, packet(7, 1))
	put(t, b, 2, packet(6, 2))
	ok(t, b.Sent(0))
	best(t, b, 2, packet(6, 2))
	ok(t, b.Abort(2))
	best(t, b, 1, packet(7, 1))
	ok(t, b.Sent(1))
	none(t, b)
	take(t, b, Done{0, api.Packet{}, true})
	none(t, b)
	put(t, b, 0, packet(9, 3))
	best(t, b, 0, packet(9, 3))
}

// P13.4: what is no mailbox, or is not ready, is refused; all that are ready may end, not the best one alone
func TestEnd(t *testing.T) {
	for many := 1; many <= 5; many++ {
		b := New(many)
		refused := func(at int) {
			t.Helper()
			before := b.States()
			if e := b.Sent(at); e != api.ErrArg {
				t.Fatalf("%d: Sent(%d): %d", many, at, e)
			}
			if e := b.Abort(at); e != api.ErrArg {
				t.Fatalf("%d: Abort(%d): %d", many, at, e)
			}
			states(t, b, before...)
		}
		outside := func() {
			t.Helper()
			for _, at := range []int{math.MinInt, -many, -2, -1, many, many + 1, 1000, 1 << 32, math.MaxInt} {
				refused(at)
			}
		}
		outside()
		for at := range many {
			refused(at)
			put(t, b, at, packet(9-at, at))
			outside()
		}
		for at := range many {
			state := 2 + at%2
			if state == 2 {
				ok(t, b.Sent(at))
			} else {
				ok(t, b.Abort(at))
			}
			if got := b.States()[at]; got != state {
				t.Fatalf("%d: %d is %d, not %d", many, at, got, state)
			}
			refused(at)
			outside()
		}
		for at := range many {
			take(t, b, Done{at, packet(9-at, at), at%2 == 0})
			refused(at)
		}
		empty(t, b)
	}
}

// P13.5: the one that ended first is taken first, whatever its number, its key, its turn of being put, and how it ended
func TestTake(t *testing.T) {
	const many = 4
	for way := range 4 * 4 * 4 * 4 {
		var order []int
		for n := range many {
			at := way >> (2 * n) & 3
			if !slices.Contains(order, at) {
				order = append(order, at)
			}
		}
		if len(order) < many {
			continue
		}
		for how := range 1 << many {
			b := New(many)
			for n := range many {
				put(t, b, n, packet((n*3+1)%4, n))
			}
			for _, at := range order {
				if how>>at&1 == 1 {
					ok(t, b.Sent(at))
				} else {
					ok(t, b.Abort(at))
				}
			}
			for i, at := range order {
				if b.Free() != i {
					t.Fatal(order, b.Free())
				}
				take(t, b, Done{at, packet((at*3+1)%4, at), how>>at&1 == 1})
				if b.States()[at] != 0 || b.Free() != i+1 {
					t.Fatal(order, b.States())
				}
			}
			empty(t, b)
			empty(t, b)
		}
	}
}

// P13.5: what is ready is not taken, and those that end later come behind those that ended ahead
func TestTakeBetween(t *testing.T) {
	b := New(3)
	empty(t, b)
	put(t, b, 0, packet(1, 0))
	empty(t, b)
	put(t, b, 1, packet(2, 1))
	put(t, b, 2, packet(3, 2))
	ok(t, b.Sent(2))
	ok(t, b.Abort(0))
	take(t, b, Done{2, packet(3, 2), true})
	put(t, b, 2, packet(0, 3))
	ok(t, b.Sent(2))
	ok(t, b.Abort(1))
	take(t, b, Done{0, packet(1, 0), false})
	take(t, b, Done{2, packet(0, 3), true})
	take(t, b, Done{1, packet(2, 1), false})
	empty(t, b)
	states(t, b, 0, 0, 0)
}

// P13.6: States, Free
func TestStatesFree(t *testing.T) {
	b := New(5)
	states(t, b, 0, 0, 0, 0, 0)
	for n := range 4 {
		put(t, b, n, packet(n, n))
		if b.Free() != 4-n {
			t.Fatal(b.Free())
		}
	}
	states(t, b, 1, 1, 1, 1, 0)
	ok(t, b.Sent(1))
	ok(t, b.Abort(3))
	for range 3 {
		states(t, b, 1, 2, 1, 3, 0)
		if b.Free() != 1 {
			t.Fatal(b.Free())
		}
	}
	b.Take()
	states(t, b, 1, 0, 1, 3, 0)
	b.Take()
	states(t, b, 1, 0, 1, 0, 0)
	if b.Free() != 3 {
		t.Fatal(b.Free())
	}
}

// P13.2 to P13.6: nil
func TestNil(t *testing.T) {
	var b *Boxes
	for range 2 {
		for _, f := range append(keyless(), rising()...) {
			if n, e := b.Put(api.Packet{Frame: f}); n != 0 || e != api.ErrNil {
				t.Fatal("Put:", n, e)
			}
		}
		none(t, b)
		for _, at := range []int{math.MinInt, -1, 0, 1, 1000, math.MaxInt} {
			if e := b.Sent(at); e != api.ErrNil {
				t.Fatal("Sent:", e)
			}
			if e := b.Abort(at); e != api.ErrNil {
				t.Fatal("Abort:", e)
			}
		}
		if d, e := b.Take(); d != (Done{}) || e != api.ErrNil {
			t.Fatal("Take:", d, e)
		}
		if len(b.States()) != 0 || b.Free() != 0 {
			t.Fatal(b.States(), b.Free())
		}
	}
}

// P1: mailboxes that New did not make are none, and no call of them panics
func TestZeroBoxes(t *testing.T) {
	var b Boxes
	for range 2 {
		if n, e := b.Put(packet(5, 1)); n != 0 || e != api.ErrFull {
			t.Fatal(n, e)
		}
		if n, e := b.Put(packet(-1, 1)); n != 0 || e != api.ErrFrame {
			t.Fatal(n, e)
		}
		for _, at := range []int{-1, 0, 1} {
			if b.Sent(at) != api.ErrArg || b.Abort(at) != api.ErrArg {
				t.Fatal(at)
			}
		}
		none(t, &b)
		empty(t, &b)
		if len(b.States()) != 0 || b.Free() != 0 {
			t.Fatal(b.States(), b.Free())
		}
	}
}

// somePacket is one that may often not be put, if wrong; few keys, so that many are alike.
func somePacket(random *rand.Rand, tag int, wrong bool) api.Packet {
	l := rising()
	if wrong && random.Intn(6) == 0 {
		l = keyless()
	}
	return api.Packet{Frame: l[random.Intn(len(l))], From: random.Intn(3), Tag: tag, Loop: random.Intn(2) == 0}
}

// step is a call of both the mailboxes and the model, and fails if they answer unlike things.
func step(t *testing.T, random *rand.Rand, b *Boxes, m *model, puts int) {
	t.Helper()
	at := random.Intn(len(m.all)+2) - 1
	if n, _, is := b.Best(); is && random.Intn(2) == 0 {
		at = n
	}
	switch what := random.Intn(20); {
	case what < puts:
		p := somePacket(random, m.step, true)
		n, e := b.Put(p)
		if wantN, want := m.put(p); n != wantN || e != want {
			t.Fatalf("Put %+v: %d, %d; not %d, %d", p, n, e, wantN, want)
		}
	case what < 14:
		if e, want := b.Sent(at), m.end(at, 2); e != want {
			t.Fatalf("Sent(%d): %d, not %d", at, e, want)
		}
	case what < 16:
		if e, want := b.Abort(at), m.end(at, 3); e != want {
			t.Fatalf("Abort(%d): %d, not %d", at, e, want)
		}
	default:
		d, e := b.Take()
		if wantD, want := m.take(); d != wantD || e != want {
			t.Fatalf("Take: %+v, %d; not %+v, %d", d, e, wantD, want)
		}
	}
}

// P13.1 to P13.6: long ways of mailboxes, by chance
func TestLongWays(t *testing.T) {
	random := rand.New(rand.NewSource(136))
	for n := range 200 {
		many := random.Intn(12)
		if n%20 == 0 {
			many = 100 + random.Intn(100)
		}
		b, m := New(many), newModel(many)
		same(t, b, m)
		puts := []int{3, 6, 9, 11}[n%4]
		for range 1000 {
			step(t, random, b, m, puts)
			same(t, b, m)
		}
	}
}

// P13.1 to P13.6: all short ways of few mailboxes
func TestShortWays(t *testing.T) {
	for many := 1; many <= 3; many++ {
		for way := range 1 << 16 {
			b, m := New(many), newModel(many)
			for n, w := 0, way; n < 8; n, w = n+1, w>>2 {
				at, _, _ := m.best()
				switch w & 3 {
				case 0:
					p := packet(n*5%3, n)
					n, e := b.Put(p)
					if wantN, want := m.put(p); n != wantN || e != want {
						t.Fatal(way, n, e)
					}
				case 1:
					if b.Sent(at) != m.end(at, 2) {
						t.Fatal(way, at)
					}
				case 2:
					// One that may not be the best, nor ready.
					at = (at + 1) % many
					if b.Abort(at) != m.end(at, 3) {
						t.Fatal(way, at)
					}
				case 3:
					d, e := b.Take()
					if wantD, want := m.take(); d != wantD || e != want {
						t.Fatal(way, d, e)
					}
				}
			}
			same(t, b, m)
		}
	}
}

// P13.7: what is taken is what was put, each once; as many as were put are those that were taken, and those that are not free
func TestEachOnce(t *testing.T) {
	random := rand.New(rand.NewSource(137))
	for range 100 {
		many := random.Intn(20) + 1
		b := New(many)
		in := map[int]api.Packet{} // by tag: those that were put, and not taken yet
		puts, takes := 0, 0
		taken := func() bool {
			d, e := b.Take()
			if e != api.OK {
				return false
			}
			if p, is := in[d.Packet.Tag]; !is || p != d.Packet {
				t.Fatalf("%+v was not put, or is taken twice", d)
			}
			delete(in, d.Packet.Tag)
			takes++
			return true
		}
		for n := range 1000 {
			switch random.Intn(4) {
			case 0, 1:
				p := somePacket(random, n, true)
				if _, e := b.Put(p); e == api.OK {
					in[n] = p
					puts++
				}
			case 2:
				if n%3 == 0 {
					b.Abort(random.Intn(many))
				} else {
					b.Sent(random.Intn(many))
				}
			default:
				taken()
			}
			if puts != takes+many-b.Free() {
				t.Fatalf("%d put, %d taken, %d of %d free", puts, takes, b.Free(), many)
			}
		}
		for at := range many {
			b.Abort(at)
		}
		for taken() {
		}
		if len(in) != 0 || puts != takes || b.Free() != many || puts < 50 {
			t.Fatal(len(in), puts, takes, b.Free())
		}
	}
}

// P13.8: what is sent whenever it is the best goes out by keys; of one key in the order in which it was put
func TestInTurn(t *testing.T) {
	random := rand.New(rand.NewSource(138))
	total := 0
	for range 200 {
		many := random.Intn(40) + 1
		b := New(many)
		var l []api.Packet
		for n := range many * 5 {
			// Some go out ahead of the others, so that numbers are not put in order.
			if b.Free() == 0 || random.Intn(4) == 0 && n < many*4 {
				b.Abort(random.Intn(many))
				if d, e := b.Take(); e == api.OK {
					l = slices.DeleteFunc(l, func(p api.Packet) bool { return p == d.Packet })
				}
			}
			p := somePacket(random, n, false)
			if _, e := b.Put(p); e == api.OK {
				l = append(l, p)
			}
		}
		slices.SortStableFunc(l, func(p, q api.Packet) int { return frame.Key(p.Frame) - frame.Key(q.Frame) })
		var out []api.Packet
		for {
			at, p, is := b.Best()
			if !is {
				break
			}
			ok(t, b.Sent(at))
			out = append(out, p)
		}
		if !slices.Equal(out, l) {
			t.Fatalf("%v, not %v", out, l)
		}
		total += len(out)
		for _, p := range l {
			if d, e := b.Take(); d.Packet != p || !d.Sent || e != api.OK {
				t.Fatalf("%+v, %d; not %+v", d, e, p)
			}
		}
	}
	if total < 2000 {
		t.Fatal(total)
	}
}

// Rule 3: what is handed out is the caller's own, and two objects share nothing
func TestOwn(t *testing.T) {
	b, other := New(3), New(3)
	put(t, b, 0, packet(5, 1))
	put(t, b, 1, packet(4, 2))
	ok(t, b.Sent(0))
	first, second := b.States(), b.States()
	for n := range first {
		first[n] = 9
	}
	_ = append(first, 8)
	if !slices.Equal(second, []int{2, 1, 0}) {
		t.Fatal(second)
	}
	states(t, b, 2, 1, 0)
	states(t, other, 0, 0, 0)
	b.Take()
	put(t, b, 0, packet(3, 3))
	if !slices.Equal(second, []int{2, 1, 0}) {
		t.Fatal(second)
	}
	same(t, other, newModel(3))
}

// What was taken is not kept.
func TestNothingKept(t *testing.T) {
	b := New(2)
	for n := range 5000 {
		put(t, b, 0, api.Packet{Frame: api.Frame{ID: n % 7, Len: 3, Data: "abc"}, From: n, Tag: n, Loop: true})
		ok(t, b.Sent(0))
		b.Take()
		if b.all[0] != (mailbox{}) || len(b.turn) != 0 || len(b.ended) != 0 || cap(b.turn) > 16 || cap(b.ended) > 16 {
			t.Fatal(n, b.all, cap(b.turn), cap(b.ended))
		}
	}
}

// P1: many calls end soon, though there are as many mailboxes as may be
func TestGreat(t *testing.T) {
	begun := time.Now()
	b := New(api.MaxRoom)
	for n := range 1000 {
		put(t, b, n, packet(2*(999-n), n))
	}
	for n := range 50000 {
		at, p, is := b.Best()
		if !is || b.Sent(at) != api.OK {
			t.Fatal(n, at, is)
		}
		take(t, b, Done{at, p, true})
		put(t, b, at, packet(n%2048, n))
		if len(b.States()) != 1000 || b.Free() != 0 {
			t.Fatal(n)
		}
	}
	if n := time.Since(begun); n > 20*time.Second {
		t.Error(n)
	}
}

// P2: calls that are refused, and those that ask, change nothing that a later one could tell.
func TestRefusedCallsChangeNothing(t *testing.T) {
	random := rand.New(rand.NewSource(2))
	for many := 1; many <= 6; many++ {
		b, m := New(many), newModel(many)
		for range 500 {
			for _, f := range keyless() {
				if n, e := b.Put(api.Packet{Frame: f}); n != 0 || e != api.ErrFrame {
					t.Fatal(f, n, e)
				}
			}
			for at, s := range append(b.States(), 0) {
				if s != 1 && (b.Sent(at) != api.ErrArg || b.Abort(at) != api.ErrArg) {
					t.Fatal(at, s)
				}
			}
			if b.Free() == 0 {
				if n, e := b.Put(packet(0, 5)); n != 0 || e != api.ErrFull {
					t.Fatal(n, e)
				}
			}
			if !slices.Contains(b.States(), 2) && !slices.Contains(b.States(), 3) {
				empty(t, b)
			}
			b.Best()
			same(t, b, m)
			step(t, random, b, m, 8)
		}
	}
}

// The chapter's example.
func TestExample(t *testing.T) {
	b := New(2)
	put(t, b, 0, packet(5, 0))
	put(t, b, 1, packet(3, 0))
	if n, e := b.Put(packet(1, 0)); n != 0 || e != api.ErrFull {
		t.Fatal(n, e)
	}
	best(t, b, 1, packet(3, 0))
	ok(t, b.Sent(1))
	take(t, b, Done{1, packet(3, 0), true})
	put(t, b, 1, packet(1, 0))
}

// P1: all calls end, at all arguments, and hold together.
func FuzzCallsEnd(f *testing.F) {
	f.Add(3, "ppppbsstttpppaaatt", 5, 0, 0, "", 0, 0)
	f.Add(0, "pstpat", 1, 1, 8, "12345678", -1, 5)
	f.Add(math.MaxInt, "pppsat", math.MaxInt, 63, -1, "a", math.MaxInt, math.MaxInt)
	f.Add(math.MinInt, "tasp", -1, -1, math.MinInt, "", math.MinInt, math.MinInt)
	f.Fuzz(func(t *testing.T, many int, way string, id, flags, n int, data string, from, tag int) {
		b, m := New(many), newModel(many)
		for i, what := range []byte(way) {
			at := int(what>>3) - 1
			if best, _, is := b.Best(); is && what&128 != 0 {
				at = best
			}
			switch what & 7 {
			case 0, 1:
				p := packet(int(what), i)
				if what&1 == 1 {
					p = api.Packet{Frame: api.Frame{ID: id, Flags: flags, Len: n, Data: data}, From: from, Tag: tag, Loop: i&1 == 0}
				}
				got, e := b.Put(p)
				if wantN, want := m.put(p); got != wantN || e != want {
					t.Fatalf("Put %+v: %d, %d; not %d, %d", p, got, e, wantN, want)
				}
			case 2, 3:
				if e, want := b.Sent(at), m.end(at, 2); e != want {
					t.Fatal(at, e, want)
				}
			case 4:
				if e, want := b.Abort(at), m.end(at, 3); e != want {
					t.Fatal(at, e, want)
				}
			case 5:
				if e, want := b.Abort(tag), m.end(tag, 3); e != want {
					t.Fatal(tag, e, want)
				}
			default:
				d, e := b.Take()
				if wantD, want := m.take(); d != wantD || e != want {
					t.Fatal(d, e, wantD, want)
				}
			}
			if i < 50 {
				same(t, b, m)
			}
		}
		same(t, b, m)
	})
}
