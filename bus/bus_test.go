package bus

import (
	"math"
	"math/rand"
	"reflect"
	"slices"
	"testing"
	"time"

	"signalbox/api"
	"signalbox/frame"
)

// narrow is a frame with this ID, without data.
func narrow(id int) api.Frame {
	return api.Frame{ID: id}
}

// with is such a frame with these data.
func with(id int, data string) api.Frame {
	return api.Frame{ID: id, Len: len(data), Data: data}
}

// keyless are frames that have no key: those that tell of errors, and those that may not be.
func keyless() []api.Frame {
	return []api.Frame{
		{Flags: api.Err, Len: 8, Data: "12345678"},
		{ID: api.Wide, Flags: api.Err, Len: 8, Data: "12345678"},
		{Flags: api.Err},
		{ID: -1},
		{ID: 2048},
		{ID: 1 << 29, Flags: api.Ext},
		{ID: math.MaxInt},
		{ID: math.MinInt},
		{Len: 1},
		{Data: "a"},
		{Len: 9, Data: "123456789"},
		{Flags: api.Rtr, Len: 1, Data: "a"},
		{Flags: api.Rtr | api.Fd},
		{Flags: api.Brs},
		{Flags: 64},
		{Flags: -1},
	}
}

// node is what a model knows of a node.
type node struct {
	tec, rec, idle int
	off            bool
	row            []api.Frame
}

// model is a bus, told otherwise than by the program.
type model struct {
	nodes []node
	back  int
	fixed bool
	log   []api.Entry
	slots int
}

func newModel(nodes, back int) *model {
	if nodes < 1 {
		nodes = 1
	}
	if nodes > 32 {
		nodes = 32
	}
	if back < 1 {
		back = 1
	}
	return &model{nodes: make([]node, nodes), back: back}
}

func (m *model) offer(at int, f api.Frame) api.Errno {
	if at < 1 || at > len(m.nodes)-1 {
		return api.ErrArg
	}
	if frame.Key(f) == -1 {
		return api.ErrFrame
	}
	if len(m.nodes[at].row) == 1000 {
		return api.ErrMany
	}
	m.nodes[at].row = append(m.nodes[at].row, f)
	return api.OK
}

// winner is the number of who has the least key among those that are not off; -1, if nobody offers. The last one comes first, so that the lesser number wins of two that are alike.
func (m *model) winner(own api.Frame, has bool) (int, api.Frame) {
	at, best := -1, api.Frame{}
	for i := len(m.nodes) - 1; i >= 0; i-- {
		f, offers := own, has && frame.Key(own) != -1
		if i > 0 {
			if offers = len(m.nodes[i].row) > 0; offers {
				f = m.nodes[i].row[0]
			}
		}
		if !offers || m.nodes[i].off {
			continue
		}
		if at < 0 || !frame.Less(best, f) {
			at, best = i, f
		}
	}
	return at, best
}

// off is for each node whether it is off.
func (m *model) off() []bool {
	var off []bool
	for _, n := range m.nodes {
		off = append(off, n.off)
	}
	return off
}

// idle brings the nodes that were off at the slot's beginning nearer to being back.
func (m *model) idle(wasOff []bool) {
	for i := range m.nodes {
		n := &m.nodes[i]
		if !wasOff[i] || i == 0 && !m.fixed {
			continue
		}
		if n.idle++; n.idle < m.back {
			continue
		}
		n.tec, n.rec, n.idle, n.off = 0, 0, 0, false
		if i == 0 {
			m.fixed = false
		}
	}
}

// missed and heard are what happens to all nodes that were not off at the slot's beginning, but this one.
func (m *model) missed(but int, wasOff []bool) {
	for i := range m.nodes {
		n := &m.nodes[i]
		if i == but || wasOff[i] {
			continue
		}
		if n.tec > 127 || n.rec > 127 {
			n.rec++
		} else {
			n.rec += 8
		}
		n.rec = min(n.rec, 135)
	}
}

func (m *model) heard(but int, wasOff []bool) {
	for i := range m.nodes {
		n := &m.nodes[i]
		switch {
		case i == but || wasOff[i] || n.rec == 0:
		case n.rec > 127:
			n.rec = 119
		default:
			n.rec--
		}
	}
}

// slot is the next slot; who was off at its beginning comes nearer to being back behind all that happens in it.
func (m *model) slot(own api.Frame, has, bad bool) Event {
	at, f := m.winner(own, has)
	wasOff := m.off()
	defer m.idle(wasOff)
	m.slots++
	if at < 0 {
		return Event{}
	}
	n := &m.nodes[at]
	if bad {
		m.missed(at, wasOff)
		n.tec += 8
		n.off = n.tec > 255
		return Event{2, at, f}
	}
	m.heard(at, wasOff)
	n.tec = max(n.tec-1, 0)
	if at > 0 {
		n.row = n.row[1:]
	}
	m.log = append(m.log, api.Entry{Frame: f, Node: at, Slot: m.slots - 1})
	return Event{1, at, f}
}

func (m *model) fix() {
	m.fixed = m.fixed || m.nodes[0].off
}

// same fails if the bus and the model tell unlike things.
func same(t *testing.T, b *Bus, m *model) {
	t.Helper()
	if b.Nodes() != len(m.nodes) || b.Slots() != m.slots || !slices.Equal(b.Log(), m.log) {
		t.Fatalf("Nodes %d, Slots %d, Log %v; not %d, %d, %v", b.Nodes(), b.Slots(), b.Log(), len(m.nodes), m.slots, m.log)
	}
	for i, n := range m.nodes {
		want := api.Conf{Tec: n.tec, Rec: n.rec, Off: n.off, Idle: n.idle}
		if got, is := b.Conf(i); got != want || !is {
			t.Fatalf("Conf(%d): %+v, %v; not %+v", i, got, is, want)
		}
		if got := b.Waits(i); !slices.Equal(got, n.row) {
			t.Fatalf("Waits(%d): %v, not %v", i, got, n.row)
		}
	}
}

// check fails if a slot's event is another one.
func check(t *testing.T, got, want Event) {
	t.Helper()
	if got != want {
		t.Fatalf("%+v, not %+v", got, want)
	}
}

// confOf is what is known of a node that is there.
func confOf(t *testing.T, b *Bus, at int) api.Conf {
	t.Helper()
	c, is := b.Conf(at)
	if !is {
		t.Fatalf("Conf(%d): none", at)
	}
	return c
}

// offer fails if the frames are not taken.
func offer(t *testing.T, b *Bus, at int, l ...api.Frame) {
	t.Helper()
	for _, f := range l {
		if e := b.Offer(at, f); e != api.OK {
			t.Fatalf("Offer(%d, %+v): %d", at, f, e)
		}
	}
}

// bad makes so many bad slots, in which our own node offers, if has.
func bad(b *Bus, has bool, times int) {
	for range times {
		b.Slot(narrow(0), has, true)
	}
}

// idle makes so many slots in which our own node has nothing.
func idle(b *Bus, times int) {
	for range times {
		b.Slot(api.Frame{}, false, false)
	}
}

// P12.1: New
func TestNew(t *testing.T) {
	counts := []int{math.MinInt, -1000, 33, 34, 64, 1000, 1 << 32, 1<<32 + 3, math.MaxInt}
	for n := -40; n <= 80; n++ {
		counts = append(counts, n)
	}
	for _, n := range counts {
		for _, back := range []int{math.MinInt, -1, 0, 1, 128, math.MaxInt} {
			b, want := New(n, back), min(max(n, 1), 32)
			if b.Nodes() != want || b.Slots() != 0 || len(b.Log()) != 0 {
				t.Fatalf("New(%d, %d): Nodes %d, Slots %d, Log %v", n, back, b.Nodes(), b.Slots(), b.Log())
			}
			for at := range want {
				if c, is := b.Conf(at); c != (api.Conf{}) || !is || len(b.Waits(at)) != 0 {
					t.Fatalf("New(%d, %d): node %d: %+v, %v, %v", n, back, at, c, is, b.Waits(at))
				}
			}
		}
	}
}

// P12.1, P12.3: behind as many slots as back says a node is back, and not ahead; below 1 it counts as 1
func TestBack(t *testing.T) {
	for _, back := range []int{math.MinInt, -1, 0, 1, 2, 3, 10, 128, 1000} {
		b := New(2, back)
		offer(t, b, 1, narrow(7))
		bad(b, false, 32)
		for n := 1; n < max(back, 1); n++ {
			check(t, b.Slot(api.Frame{}, false, false), Event{})
			if got := confOf(t, b, 1); got != (api.Conf{Tec: 256, Off: true, Idle: n}) {
				t.Fatalf("back %d: behind %d slots: %+v", back, n, got)
			}
		}
		check(t, b.Slot(api.Frame{}, false, false), Event{})
		if got := confOf(t, b, 1); got != (api.Conf{}) {
			t.Fatalf("back %d: %+v", back, got)
		}
		check(t, b.Slot(api.Frame{}, false, false), Event{1, 1, narrow(7)})
	}
	b := New(2, math.MaxInt)
	offer(t, b, 1, narrow(7))
	bad(b, false, 32)
	idle(b, 1000)
	if got := confOf(t, b, 1); got != (api.Conf{Tec: 256, Off: true, Idle: 1000}) {
		t.Fatal(got)
	}
}

// P12.2: which nodes are offered frames
func TestOfferArg(t *testing.T) {
	wrong := append(keyless(), narrow(5))
	for nodes := 1; nodes <= 32; nodes++ {
		b := New(nodes, 1)
		for _, at := range []int{math.MinInt, -nodes, -2, -1, 0, nodes, nodes + 1, 32, 33, 1000, 1 << 32, 1<<32 + 1, math.MaxInt} {
			if at > 0 && at < nodes {
				continue
			}
			for _, f := range wrong {
				if e := b.Offer(at, f); e != api.ErrArg {
					t.Fatalf("%d nodes: Offer(%d, %+v): %d", nodes, at, f, e)
				}
			}
		}
		m := newModel(nodes, 1)
		same(t, b, m)
		for at := 1; at < nodes; at++ {
			offer(t, b, at, narrow(at))
			m.offer(at, narrow(at))
			same(t, b, m)
		}
	}
}

// P12.2: which frames are taken
func TestOfferFrame(t *testing.T) {
	b := New(3, 1)
	offer(t, b, 2, narrow(9))
	for _, f := range keyless() {
		if e := b.Offer(2, f); e != api.ErrFrame {
			t.Errorf("Offer(2, %+v): %d", f, e)
		}
	}
	if got := b.Waits(2); !slices.Equal(got, []api.Frame{narrow(9)}) {
		t.Error(got)
	}
	keyed := []api.Frame{
		{}, {ID: 2047}, {ID: 2048, Flags: api.Ext}, {ID: api.Wide, Flags: api.Ext | api.Rtr, Len: 8}, {Flags: api.Rtr},
		{Flags: api.Fd, Len: 12, Data: "123456789012"}, {Flags: api.Fd | api.Brs | api.Esi | api.Ext}, with(1, "\x00\xff"),
	}
	offer(t, b, 1, keyed...)
	if got := b.Waits(1); !slices.Equal(got, keyed) {
		t.Error(got)
	}
}

// P12.2: at each node MaxRoom frames may wait; a frame that may not be is told ahead of that, and room comes back by sending alone
func TestOfferMany(t *testing.T) {
	b := New(3, 1)
	for n := range 1000 {
		offer(t, b, 1, narrow(n))
	}
	for range 3 {
		if e := b.Offer(1, narrow(5)); e != api.ErrMany {
			t.Fatal(e)
		}
	}
	for _, f := range keyless() {
		if e := b.Offer(1, f); e != api.ErrFrame {
			t.Fatal(f, e)
		}
	}
	if e := b.Offer(3, narrow(5)); e != api.ErrArg {
		t.Fatal(e)
	}
	if got := b.Waits(1); len(got) != 1000 || got[999] != narrow(999) {
		t.Fatal(len(got))
	}
	offer(t, b, 2, narrow(2047))
	check(t, b.Slot(api.Frame{}, false, true), Event{2, 1, narrow(0)})
	if e := b.Offer(1, narrow(5)); e != api.ErrMany {
		t.Fatal(e)
	}
	check(t, b.Slot(api.Frame{}, false, false), Event{1, 1, narrow(0)})
	offer(t, b, 1, narrow(1500))
	if e := b.Offer(1, narrow(5)); e != api.ErrMany {
		t.Fatal(e)
	}
	got := b.Waits(1)
	if len(got) != 1000 || got[0] != narrow(1) || got[998] != narrow(999) || got[999] != narrow(1500) {
		t.Fatal(len(got), got[0], got[999])
	}
}

// P12.2: a frame waits behind all others of its node, and at a node that is off, too
func TestOfferBehindAll(t *testing.T) {
	b := New(3, 3)
	offer(t, b, 1, narrow(9), narrow(3), narrow(9))
	offer(t, b, 2, narrow(1))
	if got := b.Waits(1); !slices.Equal(got, []api.Frame{narrow(9), narrow(3), narrow(9)}) {
		t.Fatal(got)
	}
	bad(b, false, 32)
	if !confOf(t, b, 2).Off {
		t.Fatal(confOf(t, b, 2))
	}
	offer(t, b, 2, narrow(0))
	if got := b.Waits(2); !slices.Equal(got, []api.Frame{narrow(1), narrow(0)}) {
		t.Fatal(got)
	}
}

// P12.3: a node's first frame alone is offered, though one behind it has a lesser key
func TestSlotTakesFirst(t *testing.T) {
	b := New(3, 1)
	offer(t, b, 1, narrow(9), narrow(1))
	offer(t, b, 2, narrow(5), narrow(7))
	for n, want := range []Event{{1, 2, narrow(5)}, {1, 2, narrow(7)}, {1, 1, narrow(9)}, {1, 1, narrow(1)}, {}, {}} {
		check(t, b.Slot(api.Frame{}, false, false), want)
		if b.Slots() != n+1 {
			t.Fatal(b.Slots())
		}
	}
}

// P12.3: of several with one key the lesser node wins, whatever the data, our own one first
func TestSlotAlike(t *testing.T) {
	b := New(4, 1)
	offer(t, b, 3, with(5, "a"), narrow(6))
	offer(t, b, 2, with(5, "b"), narrow(6))
	offer(t, b, 1, narrow(6), with(5, "c"))
	check(t, b.Slot(with(5, "z"), true, false), Event{1, 0, with(5, "z")})
	check(t, b.Slot(api.Frame{}, false, false), Event{1, 2, with(5, "b")})
	check(t, b.Slot(with(6, "z"), true, false), Event{1, 3, with(5, "a")})
	check(t, b.Slot(api.Frame{}, false, false), Event{1, 1, narrow(6)})
	check(t, b.Slot(narrow(6), true, false), Event{1, 1, with(5, "c")})
	check(t, b.Slot(narrow(7), true, false), Event{1, 2, narrow(6)})
	check(t, b.Slot(narrow(6), true, true), Event{2, 0, narrow(6)})
}

// P12.3: keys go by layer 2, not by IDs: what asks, what is wide, what is of Fd comes behind
func TestSlotByKey(t *testing.T) {
	order := []api.Frame{
		{ID: 4}, {ID: 4, Flags: api.Fd}, {ID: 4, Flags: api.Rtr}, {ID: 4 << 18, Flags: api.Ext}, {ID: 4<<18 | 1, Flags: api.Ext}, {ID: 5},
	}
	for turn := range 6 {
		b := New(7, 1)
		for n, f := range order {
			offer(t, b, (n+turn)%6+1, f)
		}
		for n, f := range order {
			check(t, b.Slot(api.Frame{}, false, false), Event{1, (n+turn)%6 + 1, f})
		}
		check(t, b.Slot(api.Frame{}, false, false), Event{})
	}
}

// P12.3: own is offered just if has, and it has a key; it does not wait
func TestSlotOwn(t *testing.T) {
	b := New(2, 1)
	check(t, b.Slot(narrow(3), false, false), Event{})
	check(t, b.Slot(narrow(3), false, true), Event{})
	for _, f := range keyless() {
		check(t, b.Slot(f, true, false), Event{})
		check(t, b.Slot(f, true, true), Event{})
	}
	if c := confOf(t, b, 0); c != (api.Conf{}) {
		t.Fatal(c)
	}
	offer(t, b, 1, narrow(1), narrow(5), narrow(6))
	check(t, b.Slot(narrow(3), true, false), Event{1, 1, narrow(1)})
	check(t, b.Slot(narrow(3), true, true), Event{2, 0, narrow(3)})
	// What our own node offered is gone, once it doesn't offer it again.
	check(t, b.Slot(api.Frame{}, false, false), Event{1, 1, narrow(5)})
	for _, f := range keyless() {
		check(t, b.Slot(f, true, true), Event{2, 1, narrow(6)})
		check(t, b.Slot(f, true, false), Event{1, 1, narrow(6)})
		offer(t, b, 1, narrow(6))
	}
	if got := b.Waits(0); len(got) != 0 {
		t.Fatal(got)
	}
	one := New(1, 1)
	check(t, one.Slot(narrow(3), true, false), Event{1, 0, narrow(3)})
	check(t, one.Slot(narrow(3), true, false), Event{1, 0, narrow(3)})
	check(t, one.Slot(api.Frame{}, false, false), Event{})
	if got := one.Log(); !slices.Equal(got, []api.Entry{{Frame: narrow(3), Slot: 0}, {Frame: narrow(3), Slot: 1}}) {
		t.Fatal(got)
	}
}

// P12.3: what is known of nodes behind bad slots and others; a failed frame waits on, and is in no log
func TestSlotCounts(t *testing.T) {
	b := New(3, 1)
	offer(t, b, 1, narrow(4), narrow(8))
	confs := func(want ...api.Conf) {
		t.Helper()
		for at, c := range want {
			if got := confOf(t, b, at); got != c {
				t.Fatalf("node %d: %+v, not %+v", at, got, c)
			}
		}
	}
	check(t, b.Slot(narrow(6), true, true), Event{2, 1, narrow(4)})
	confs(api.Conf{Rec: 8}, api.Conf{Tec: 8}, api.Conf{Rec: 8})
	if got := b.Waits(1); !slices.Equal(got, []api.Frame{narrow(4), narrow(8)}) || len(b.Log()) != 0 {
		t.Fatal(got, b.Log())
	}
	check(t, b.Slot(narrow(6), true, false), Event{1, 1, narrow(4)})
	confs(api.Conf{Rec: 7}, api.Conf{Tec: 7}, api.Conf{Rec: 7})
	check(t, b.Slot(narrow(6), true, false), Event{1, 0, narrow(6)})
	confs(api.Conf{Rec: 7}, api.Conf{Tec: 7}, api.Conf{Rec: 6})
	check(t, b.Slot(narrow(6), true, true), Event{2, 0, narrow(6)})
	confs(api.Conf{Tec: 8, Rec: 7}, api.Conf{Tec: 7, Rec: 8}, api.Conf{Rec: 14})
	check(t, b.Slot(narrow(6), true, false), Event{1, 0, narrow(6)})
	confs(api.Conf{Tec: 7, Rec: 7}, api.Conf{Tec: 7, Rec: 7}, api.Conf{Rec: 13})
	if got := b.Waits(1); !slices.Equal(got, []api.Frame{narrow(8)}) {
		t.Fatal(got)
	}
	want := []api.Entry{{Frame: narrow(4), Node: 1, Slot: 1}, {Frame: narrow(6), Node: 0, Slot: 2}, {Frame: narrow(6), Node: 0, Slot: 4}}
	if got := b.Log(); !slices.Equal(got, want) {
		t.Fatal(got)
	}
	// If nobody offers nothing happens to anybody, in a bad slot neither.
	idle := New(2, 1)
	offer(t, idle, 1, narrow(4))
	idle.Slot(api.Frame{}, false, true)
	idle.Slot(api.Frame{}, false, false)
	for n := range 9 {
		check(t, idle.Slot(api.Frame{}, false, n%2 == 0), Event{})
		if confOf(t, idle, 0) != (api.Conf{Rec: 7}) || confOf(t, idle, 1) != (api.Conf{Tec: 7}) || idle.Slots() != n+3 || len(idle.Log()) != 1 {
			t.Fatal(confOf(t, idle, 0), confOf(t, idle, 1), idle.Slots())
		}
	}
}

// P12.3: who is off at a slot's beginning offers, misses and hears nothing in it, in the one behind which it is back neither
func TestSlotOff(t *testing.T) {
	for _, isBad := range []bool{false, true} {
		b := New(3, 3)
		offer(t, b, 1, narrow(1), narrow(2))
		bad(b, false, 32)
		if c := confOf(t, b, 1); c != (api.Conf{Tec: 256, Off: true}) {
			t.Fatal(c)
		}
		kind := 1
		if isBad {
			kind = 2
		}
		for n := 1; n <= 2; n++ {
			check(t, b.Slot(narrow(9), true, isBad), Event{kind, 0, narrow(9)})
			if c := confOf(t, b, 1); c != (api.Conf{Tec: 256, Off: true, Idle: n}) {
				t.Fatal(c)
			}
		}
		check(t, b.Slot(narrow(9), true, isBad), Event{kind, 0, narrow(9)})
		if c := confOf(t, b, 1); c != (api.Conf{}) {
			t.Fatalf("bad %v: %+v", isBad, c)
		}
		if got := b.Waits(1); !slices.Equal(got, []api.Frame{narrow(1), narrow(2)}) {
			t.Fatal(got)
		}
		check(t, b.Slot(narrow(9), true, false), Event{1, 1, narrow(1)})
	}
}

// P12.3, P10.5: a node that comes back behind a slot has missed nothing in it, whoever failed there; in the next one it has
func TestBackMissedNothing(t *testing.T) {
	for _, back := range []int{math.MinInt, 0, 1, 2, 5, 128} {
		// In the slots ahead of the last one nobody offers; the sender fails in the last one.
		for _, sender := range []int{0, 2, 31} {
			b := New(32, back)
			offer(t, b, 1, narrow(0))
			bad(b, false, 32)
			for n := 1; n < max(back, 1); n++ {
				check(t, b.Slot(api.Frame{}, false, true), Event{})
			}
			if sender > 0 {
				offer(t, b, sender, narrow(1))
			}
			before := confOf(t, b, 3)
			check(t, b.Slot(narrow(1), sender == 0, true), Event{2, sender, narrow(1)})
			if c := confOf(t, b, 1); c != (api.Conf{}) {
				t.Fatalf("back %d, sender %d: %+v", back, sender, c)
			}
			if c := confOf(t, b, sender); c.Tec != 8 {
				t.Fatalf("back %d, sender %d: the sender is %+v", back, sender, c)
			}
			// Who was not off has missed it.
			if c := confOf(t, b, 3); c.Rec != min(before.Rec+1, 135) {
				t.Fatalf("back %d, sender %d: another was %+v, is %+v", back, sender, before, c)
			}
			check(t, b.Slot(narrow(1), true, true), Event{2, 1, narrow(0)})
			if c := confOf(t, b, 1); c != (api.Conf{Tec: 8}) {
				t.Fatalf("back %d, sender %d: %+v", back, sender, c)
			}
		}
	}
}

// P12.3: such a node misses what fails from the next slot on
func TestBackThenMisses(t *testing.T) {
	for _, back := range []int{1, 2, 5} {
		b := New(3, back)
		offer(t, b, 1, narrow(1))
		bad(b, false, 32)
		// Our own node has failed in each slot that node 1 is off in.
		bad(b, true, back)
		if c := confOf(t, b, 1); c != (api.Conf{}) {
			t.Fatalf("back %d: %+v", back, c)
		}
		bad(b, true, 1)
		if c := confOf(t, b, 1); c != (api.Conf{Rec: 8}) {
			t.Fatalf("back %d: %+v", back, c)
		}
		check(t, b.Slot(narrow(0), true, false), Event{1, 0, narrow(0)})
		if c := confOf(t, b, 1); c != (api.Conf{Rec: 7}) {
			t.Fatalf("back %d: %+v", back, c)
		}
	}
}

// P12.3, P12.4: our own node, once a Fix lets it be back, has missed nothing in the slots that it was off in
func TestOwnBackMissedNothing(t *testing.T) {
	for _, back := range []int{0, 1, 2, 5} {
		b := New(2, back)
		bad(b, true, 32)
		offer(t, b, 1, narrow(5))
		// Without a Fix it is no nearer to being back, and has missed nothing, either.
		check(t, b.Slot(narrow(0), true, true), Event{2, 1, narrow(5)})
		if c := confOf(t, b, 0); c != (api.Conf{Tec: 256, Off: true}) {
			t.Fatalf("back %d: %+v", back, c)
		}
		b.Fix()
		for n := 1; n <= max(back, 1); n++ {
			check(t, b.Slot(narrow(0), true, true), Event{2, 1, narrow(5)})
			want := api.Conf{Tec: 256, Off: true, Idle: n}
			if n == max(back, 1) {
				want = api.Conf{}
			}
			if c := confOf(t, b, 0); c != want {
				t.Fatalf("back %d, slot %d: %+v", back, n, c)
			}
		}
		check(t, b.Slot(api.Frame{}, false, true), Event{2, 1, narrow(5)})
		if c := confOf(t, b, 0); c != (api.Conf{Rec: 8}) {
			t.Fatalf("back %d: %+v", back, c)
		}
	}
}

// P12.3: the slot behind which one node is back may be the one that another gets off in: that one has no idle slot yet
func TestBackWhileAnotherGetsOff(t *testing.T) {
	b := New(3, 1)
	offer(t, b, 1, narrow(1))
	offer(t, b, 2, narrow(2))
	// Our own node has failed as often as it may, and node 1 gets off ahead of it.
	bad(b, true, 31)
	for range 32 {
		check(t, b.Slot(api.Frame{}, false, true), Event{2, 1, narrow(1)})
	}
	check(t, b.Slot(narrow(0), true, true), Event{2, 0, narrow(0)})
	if c := confOf(t, b, 1); c != (api.Conf{}) {
		t.Fatal(c)
	}
	if c := confOf(t, b, 0); !c.Off || c.Tec != 256 || c.Idle != 0 {
		t.Fatal(c)
	}
	if c := confOf(t, b, 2); c != (api.Conf{Rec: 135}) {
		t.Fatal(c)
	}
}

// P12.3: a node that gets off in a slot is one slot nearer to being back from the next one on
func TestSlotGetsOff(t *testing.T) {
	b := New(3, 1)
	offer(t, b, 1, narrow(1))
	offer(t, b, 2, narrow(2))
	bad(b, false, 31)
	if c := confOf(t, b, 1); c != (api.Conf{Tec: 248}) {
		t.Fatal(c)
	}
	check(t, b.Slot(api.Frame{}, false, true), Event{2, 1, narrow(1)})
	if c := confOf(t, b, 1); c != (api.Conf{Tec: 256, Off: true}) {
		t.Fatal(c)
	}
	check(t, b.Slot(api.Frame{}, false, false), Event{1, 2, narrow(2)})
	if c := confOf(t, b, 1); c != (api.Conf{}) {
		t.Fatal(c)
	}
	check(t, b.Slot(api.Frame{}, false, false), Event{1, 1, narrow(1)})
}

// P12.4: our own node stays off until a Fix, and needs another one the next time
func TestFix(t *testing.T) {
	for _, back := range []int{0, 1, 2, 5} {
		b := New(2, back)
		for range 3 {
			// Of a node that is not off a Fix changes nothing, and is not kept for later.
			b.Fix()
			bad(b, true, 16)
			b.Fix()
			bad(b, true, 16)
			off := api.Conf{Tec: 256, Off: true}
			for range 20 {
				check(t, b.Slot(narrow(0), true, false), Event{})
				if c := confOf(t, b, 0); c != off {
					t.Fatalf("back %d, without Fix: %+v", back, c)
				}
			}
			for n := 1; n <= max(back, 1); n++ {
				if c := confOf(t, b, 0); c != (api.Conf{Tec: 256, Off: true, Idle: n - 1}) {
					t.Fatalf("back %d, slot %d: %+v", back, n, c)
				}
				// Once is enough, and more often is no sooner.
				if n%2 == 1 {
					b.Fix()
					b.Fix()
				}
				check(t, b.Slot(narrow(0), true, false), Event{})
			}
			if c := confOf(t, b, 0); c != (api.Conf{}) {
				t.Fatalf("back %d: %+v", back, c)
			}
			check(t, b.Slot(narrow(0), true, false), Event{1, 0, narrow(0)})
		}
	}
}

// P12.4: others need no Fix, and a Fix is for nobody else
func TestFixIsOurs(t *testing.T) {
	b := New(3, 2)
	offer(t, b, 1, narrow(1))
	bad(b, false, 32)
	b.Fix()
	bad(b, true, 1)
	bad(b, true, 31)
	if c := confOf(t, b, 0); !c.Off {
		t.Fatal(c)
	}
	// The node 1 was back long ago, and has failed since.
	if c := confOf(t, b, 1); c.Off || c.Tec != 0 {
		t.Fatal(c)
	}
	bad(b, true, 32)
	if c := confOf(t, b, 1); c.Tec != 256 || !c.Off {
		t.Fatal(c)
	}
	idle(b, 2)
	if c := confOf(t, b, 1); c != (api.Conf{}) {
		t.Fatal(c)
	}
	if c := confOf(t, b, 0); !c.Off || c.Idle != 0 {
		t.Fatal(c)
	}
}

// P12.5: what is told of nodes that are none
func TestToldOfNone(t *testing.T) {
	for _, nodes := range []int{1, 2, 31, 32} {
		b := New(nodes, 1)
		for at := 1; at < nodes; at++ {
			offer(t, b, at, narrow(at))
		}
		bad(b, true, 3)
		for _, at := range []int{math.MinInt, -nodes, -1, nodes, nodes + 1, 1000, 1 << 32, math.MaxInt} {
			if c, is := b.Conf(at); c != (api.Conf{}) || is {
				t.Errorf("%d nodes: Conf(%d): %+v, %v", nodes, at, c, is)
			}
			if got := b.Waits(at); len(got) != 0 {
				t.Errorf("%d nodes: Waits(%d): %v", nodes, at, got)
			}
		}
		for at := range nodes {
			if _, is := b.Conf(at); !is {
				t.Errorf("%d nodes: Conf(%d): none", nodes, at)
			}
			if got := b.Waits(at); len(got) != min(at, 1) {
				t.Errorf("%d nodes: Waits(%d): %v", nodes, at, got)
			}
		}
	}
}

// P12.2 to P12.5: nil
func TestNil(t *testing.T) {
	var b *Bus
	for range 2 {
		for _, at := range []int{math.MinInt, -1, 0, 1, 32, math.MaxInt} {
			for _, f := range append(keyless(), narrow(5)) {
				if e := b.Offer(at, f); e != api.ErrNil {
					t.Error(at, f, e)
				}
				check(t, b.Slot(f, true, at == 0), Event{})
				check(t, b.Slot(f, false, at == 0), Event{})
			}
			if c, is := b.Conf(at); c != (api.Conf{}) || is || len(b.Waits(at)) != 0 {
				t.Error(at, c, is, b.Waits(at))
			}
		}
		b.Fix()
		if b.Log() != nil || b.Slots() != 0 || b.Nodes() != 0 {
			t.Error(b.Log(), b.Slots(), b.Nodes())
		}
	}
}

// P1: a bus that New did not make has no nodes, and no call of it panics
func TestZeroBus(t *testing.T) {
	var b Bus
	for n := range 3 {
		for at := -1; at < 3; at++ {
			if e := b.Offer(at, narrow(5)); e != api.ErrArg {
				t.Error(at, e)
			}
			if c, is := b.Conf(at); c != (api.Conf{}) || is || len(b.Waits(at)) != 0 {
				t.Error(at, c, is)
			}
		}
		b.Fix()
		check(t, b.Slot(narrow(5), true, n == 1), Event{})
		if b.Nodes() != 0 || b.Slots() != n+1 || len(b.Log()) != 0 {
			t.Error(b.Nodes(), b.Slots(), b.Log())
		}
	}
}

// someFrame is a frame with a key, by chance one of few, so that several are alike; now and then one without.
func someFrame(random *rand.Rand) api.Frame {
	if random.Intn(20) == 0 {
		l := keyless()
		return l[random.Intn(len(l))]
	}
	f := api.Frame{ID: random.Intn(6), Flags: []int{0, 0, 0, api.Rtr, api.Fd, api.Fd | api.Brs}[random.Intn(6)]}
	if random.Intn(4) == 0 {
		f.ID, f.Flags = f.ID<<18|random.Intn(3), f.Flags|api.Ext
	}
	if f.Flags&api.Rtr == 0 {
		f.Data = "12345678"[:random.Intn(9)]
		f.Len = len(f.Data)
	}
	return f
}

// step does one thing with both, by chance, and fails if they answer unlike things.
func step(t *testing.T, random *rand.Rand, b *Bus, m *model, badOf100 int) {
	t.Helper()
	switch random.Intn(10) {
	case 0:
		if random.Intn(5) == 0 {
			b.Fix()
			m.fix()
		}
	case 1, 2, 3:
		at, f := random.Intn(len(m.nodes)+2)-1, someFrame(random)
		if got, want := b.Offer(at, f), m.offer(at, f); got != want {
			t.Fatalf("Offer(%d, %+v): %d, not %d", at, f, got, want)
		}
	default:
		f, has, isBad := someFrame(random), random.Intn(3) == 0, random.Intn(100) < badOf100
		check(t, b.Slot(f, has, isBad), m.slot(f, has, isBad))
	}
}

// P12.2 to P12.5: long ways of a bus, by chance
func TestLongWays(t *testing.T) {
	random := rand.New(rand.NewSource(125))
	for n := range 150 {
		nodes, back := random.Intn(8), random.Intn(12)-1
		if n%10 == 0 {
			nodes = 25 + random.Intn(15)
		}
		b, m := New(nodes, back), newModel(nodes, back)
		same(t, b, m)
		often := []int{0, 10, 50, 90, 100}[n%5]
		for range 1200 {
			step(t, random, b, m, often)
			if random.Intn(8) == 0 {
				same(t, b, m)
			}
		}
		same(t, b, m)
	}
}

// P12.3, P12.4: all short ways of two nodes that fail often, with their first frames and at the edge of being off
func TestShortWays(t *testing.T) {
	for way := range 1 << 14 {
		b, m := New(2, 2), newModel(2, 2)
		for at, n := range []int{way & 1, way >> 1 & 1} {
			f := narrow(5)
			if at == 1 {
				b.Offer(1, f)
				m.offer(1, f)
			}
			for range 30 + n {
				b.Slot(f, at == 0, true)
				m.slot(f, at == 0, true)
			}
		}
		for w, n := way>>2, 0; n < 6; w, n = w>>2, n+1 {
			switch w & 3 {
			case 0, 1:
				check(t, b.Slot(narrow(w&7), true, w&1 == 0), m.slot(narrow(w&7), true, w&1 == 0))
			case 2:
				check(t, b.Slot(narrow(5), false, true), m.slot(narrow(5), false, true))
			case 3:
				b.Fix()
				m.fix()
			}
		}
		same(t, b, m)
	}
}

// P12.6: what is sent, or fails, has the least key of all that are offered in the slot
func TestLeastIsSent(t *testing.T) {
	random := rand.New(rand.NewSource(126))
	for range 60 {
		nodes := random.Intn(32) + 1
		b, m := New(nodes, 3), newModel(nodes, 3)
		for range 400 {
			for range random.Intn(4) {
				at, f := random.Intn(nodes+1), someFrame(random)
				b.Offer(at, f)
				m.offer(at, f)
			}
			own, has, isBad := someFrame(random), random.Intn(2) == 0, random.Intn(3) == 0
			var keys []int
			for at := range nodes {
				row := b.Waits(at)
				if at == 0 && has {
					row = []api.Frame{own}
				}
				if !confOf(t, b, at).Off && len(row) > 0 && frame.Key(row[0]) >= 0 {
					keys = append(keys, frame.Key(row[0]))
				}
			}
			e := b.Slot(own, has, isBad)
			check(t, e, m.slot(own, has, isBad))
			if (e.Kind == 0) != (len(keys) == 0) || len(keys) > 0 && frame.Key(e.Frame) != slices.Min(keys) {
				t.Fatalf("%+v of keys %v", e, keys)
			}
		}
	}
}

// P12.7: what a node sent is what was offered there, in that order, each once
func TestEachOnce(t *testing.T) {
	random := rand.New(rand.NewSource(127))
	for range 40 {
		nodes := random.Intn(6) + 2
		b := New(nodes, random.Intn(5))
		taken := make([][]api.Frame, nodes)
		for n := range 600 {
			at := random.Intn(nodes-1) + 1
			f := with(random.Intn(4), string([]byte{byte(n), byte(n >> 8)}))
			if random.Intn(2) == 0 && b.Offer(at, f) == api.OK {
				taken[at] = append(taken[at], f)
			}
			if e := b.Slot(f, n%4 == 0, random.Intn(5) < 2); e.Kind == 1 && e.Node == 0 {
				taken[0] = append(taken[0], f)
			}
			b.Fix()
		}
		gone := make([][]api.Frame, nodes)
		for _, entry := range b.Log() {
			gone[entry.Node] = append(gone[entry.Node], entry.Frame)
		}
		for at := range nodes {
			if got := append(gone[at], b.Waits(at)...); !slices.Equal(got, taken[at]) {
				t.Fatalf("node %d: %v, not %v", at, got, taken[at])
			}
		}
		for range 5000 {
			b.Slot(api.Frame{}, false, false)
		}
		for at := range nodes {
			if got := b.Waits(at); len(got) != 0 {
				t.Fatalf("node %d: %v", at, got)
			}
		}
	}
}

// P12.8: the log's slots rise, and it is never shortened
func TestLogRises(t *testing.T) {
	random := rand.New(rand.NewSource(128))
	b := New(4, 2)
	var before []api.Entry
	for n := range 1500 {
		b.Offer(random.Intn(5), someFrame(random))
		if n%10 == 0 {
			b.Fix()
		}
		e := b.Slot(someFrame(random), n%5 == 0, random.Intn(4) == 0)
		log := b.Log()
		if e.Kind == 1 {
			before = append(before, api.Entry{Frame: e.Frame, Node: e.Node, Slot: n})
		}
		if !slices.Equal(log, before) {
			t.Fatalf("slot %d: %v", n, log)
		}
		for i := 1; i < len(log); i++ {
			if log[i].Slot <= log[i-1].Slot {
				t.Fatal(log[i-1], log[i])
			}
		}
		before = log
	}
	if len(before) < 200 {
		t.Fatal(len(before))
	}
}

// Rule 3: what is handed out is the caller's own, and two buses share nothing
func TestOwn(t *testing.T) {
	b, other := New(3, 1), New(3, 1)
	offer(t, b, 1, narrow(1), narrow(2), narrow(3), narrow(4))
	idle(b, 2)
	for range 2 {
		waits, log := b.Waits(1), b.Log()
		for range 2 {
			if !slices.Equal(waits, []api.Frame{narrow(3), narrow(4)}) {
				t.Fatal(waits)
			}
			if !slices.Equal(log, []api.Entry{{Frame: narrow(1), Node: 1, Slot: 0}, {Frame: narrow(2), Node: 1, Slot: 1}}) {
				t.Fatal(log)
			}
			// What is done with one list is not to be seen in another one.
			again, logAgain := b.Waits(1), b.Log()
			again[0], logAgain[0] = narrow(77), api.Entry{Node: 77}
			_, _ = append(again, narrow(78)), append(logAgain, api.Entry{Node: 78})
		}
		waits[0], log[1] = narrow(79), api.Entry{Node: 79}
	}
	kept, keptLog := b.Waits(1), b.Log()
	offer(t, b, 1, narrow(5))
	idle(b, 2)
	if !slices.Equal(kept, []api.Frame{narrow(3), narrow(4)}) || len(keptLog) != 2 || keptLog[1].Frame != narrow(2) {
		t.Fatal(kept, keptLog)
	}
	same(t, other, newModel(3, 1))
}

// What waits no more is not kept.
func TestNothingKept(t *testing.T) {
	b := New(3, 1)
	for n := range 5000 {
		offer(t, b, 1, with(3, "abc"), with(3, "abd"))
		idle(b, 1)
		if n > 0 {
			idle(b, 1)
		}
		if n%100 > 0 {
			continue
		}
		row := b.waits[1]
		if len(row) != 1 || cap(row) > 16 {
			t.Fatal(len(row), cap(row))
		}
	}
	idle(b, 1)
	if len(b.waits) != 0 {
		t.Fatal(b.waits)
	}
	offer(t, b, 1, narrow(1), narrow(2), narrow(3))
	all := b.waits[1]
	idle(b, 2)
	if !reflect.DeepEqual(all, []api.Frame{{}, {}, narrow(3)}) {
		t.Fatal(all)
	}
}

// P1: many slots end soon, though as much waits as may
func TestGreat(t *testing.T) {
	begun := time.Now()
	b := New(32, 1)
	for at := 1; at < 32; at++ {
		for n := range 1000 {
			offer(t, b, at, with(n, "12345678"))
		}
	}
	for range 31 * 1000 {
		if e := b.Slot(api.Frame{}, false, false); e.Kind != 1 {
			t.Fatal(e)
		}
	}
	idle(b, 100000)
	if len(b.Log()) != 31000 || b.Slots() != 131000 {
		t.Fatal(len(b.Log()), b.Slots())
	}
	if n := time.Since(begun); n > 20*time.Second {
		t.Error(n)
	}
}

// P2: calls that are refused, and those that ask, change nothing that a later one could tell.
func TestRefusedCallsChangeNothing(t *testing.T) {
	b, m := New(3, 2), newModel(3, 2)
	random := rand.New(rand.NewSource(2))
	for n := range 500 {
		for _, at := range []int{-1, 0, 3, math.MaxInt, math.MinInt} {
			if e := b.Offer(at, narrow(1)); e != api.ErrArg {
				t.Fatal(at, e)
			}
			b.Conf(at)
			b.Waits(at)
		}
		for _, f := range keyless() {
			if e := b.Offer(1+n%2, f); e != api.ErrFrame {
				t.Fatal(f, e)
			}
		}
		if !confOf(t, b, 0).Off {
			b.Fix()
		}
		same(t, b, m)
		step(t, random, b, m, 60)
	}
}

// The chapter's example.
func TestExample(t *testing.T) {
	b := New(3, 1)
	offer(t, b, 1, narrow(5))
	offer(t, b, 2, narrow(4))
	check(t, b.Slot(api.Frame{}, false, false), Event{1, 2, narrow(4)})
	check(t, b.Slot(api.Frame{}, false, false), Event{1, 1, narrow(5)})
}

// The document's example: two nodes offer 123 and 124 in one slot.
func TestDocumentsExample(t *testing.T) {
	b := New(3, 1)
	offer(t, b, 1, narrow(124))
	offer(t, b, 2, narrow(123))
	check(t, b.Slot(api.Frame{}, false, false), Event{1, 2, narrow(123)})
	if got := b.Waits(1); !slices.Equal(got, []api.Frame{narrow(124)}) {
		t.Fatal(got)
	}
	check(t, b.Slot(api.Frame{}, false, false), Event{1, 1, narrow(124)})
}

// P1: all calls end, at all arguments, and hold together.
func FuzzCallsEnd(f *testing.F) {
	f.Add(3, 1, "osososfbbbb", 5, 0, 0, "")
	f.Add(0, 0, "bbbbbbbbbbbbbbbbbbbbbbbbbbbbbbbbbbbbbbfssss", 1, 1, 8, "12345678")
	f.Add(math.MaxInt, math.MaxInt, "oooSSS", math.MaxInt, 63, -1, "a")
	f.Add(math.MinInt, math.MinInt, "sfsfb", -1, -1, math.MinInt, "")
	f.Fuzz(func(t *testing.T, nodes, back int, way string, id, flags, n int, data string) {
		b, m := New(nodes, back), newModel(nodes, back)
		for i, what := range []byte(way) {
			x := api.Frame{ID: id, Flags: flags, Len: n, Data: data}
			if what&1 == 0 {
				x = narrow(int(what) * 8)
			}
			switch what >> 1 % 4 {
			case 0:
				b.Fix()
				m.fix()
			case 1:
				at := int(what>>4) - 1
				if got, want := b.Offer(at, x), m.offer(at, x); got != want {
					t.Fatal(at, x, got)
				}
			default:
				has, isBad := what&8 > 0, what&16 > 0
				check(t, b.Slot(x, has, isBad), m.slot(x, has, isBad))
			}
			if i < 50 {
				same(t, b, m)
			}
		}
		same(t, b, m)
		if e := b.Offer(id, narrow(1)); e != m.offer(id, narrow(1)) {
			t.Fatal(id, e)
		}
	})
}
