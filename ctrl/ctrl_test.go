package ctrl

import (
	"math"
	"math/rand"
	"reflect"
	"slices"
	"testing"
	"time"

	"signalbox/api"
	"signalbox/box"
	"signalbox/frame"
)

// packet is one with a frame of this ID, and this number.
func packet(id, tag int) api.Packet {
	return api.Packet{Frame: api.Frame{ID: id}, Tag: tag}
}

// done is a mailbox that has ended.
func done(at int, p api.Packet, sent bool) box.Done {
	return box.Done{Box: at, Packet: p, Sent: sent}
}

// keyless are frames that have no key: those that tell of errors, and those that may not be.
func keyless() []api.Frame {
	return []api.Frame{
		{Flags: api.Err, Len: 8, Data: "12345678"},
		{ID: api.Wide, Flags: api.Err, Len: 8, Data: "12345678"},
		{ID: 2, Flags: api.Err, Len: 8, Data: "\x00\x00\x00\x00\x00\x00\x00\x00"},
		{Flags: api.Err},
		{ID: -1},
		{ID: 2048},
		{ID: 1 << 29, Flags: api.Ext},
		{ID: math.MaxInt},
		{ID: math.MinInt},
		{Len: 1},
		{Data: "a"},
		{Len: 9, Data: "123456789"},
		{Flags: api.Rtr, Len: 1, Data: "a"},
		{Flags: api.Rtr | api.Fd},
		{Flags: api.Brs},
		{Flags: 64},
		{Flags: -1},
	}
}

// keyed are frames of all kinds that have a key.
func keyed() []api.Frame {
	return []api.Frame{
		{},
		{ID: 1},
		{ID: 1, Flags: api.Rtr},
		{ID: 1, Flags: api.Ext},
		{ID: 1, Flags: api.Ext | api.Rtr, Len: 8},
		{ID: 5, Len: 2, Data: "ab"},
		{ID: 5, Flags: api.Fd, Len: 12, Data: "123456789012"},
		{ID: 6, Flags: api.Fd | api.Brs | api.Esi},
		{ID: 256, Len: 8, Data: "12345678"},
		{ID: 511, Flags: api.Fd | api.Brs, Len: 64, Data: string(make([]byte, 64))},
		{ID: 256 << 18, Flags: api.Ext},
		{ID: api.Narrow, Flags: api.Rtr, Len: 8},
		{ID: api.Wide, Flags: api.Ext | api.Fd},
	}
}

// through tells whether one of the filters lets a frame through, told otherwise than by the program: bit by bit of words made here.
func through(l []api.Filter, f api.Frame) bool {
	if frame.Key(f) == -1 {
		return false
	}
	word := uint64(f.ID)
	if f.Flags&api.Ext != 0 {
		word += 1 << 31
	}
	if f.Flags&api.Rtr != 0 {
		word += 1 << 30
	}
	for _, a := range l {
		same := true
		for bit := uint64(1); bit < 1<<32; bit *= 2 {
			if uint64(a.Mask)&bit > 0 && uint64(a.ID)&bit != word&bit {
				same = false
			}
		}
		if same && !a.Inv || !same && a.Inv {
			return true
		}
	}
	return len(l) == 0
}

// held is what a model knows of a mailbox.
type held struct {
	state  int
	packet api.Packet
	put    int // the number of the step in which it was put, and in which it ended
	ended  int
}

// model is a controller told otherwise than by the program: all mailboxes are gone through each time, and each bit of the register stands by itself.
type model struct {
	boxes                  []held
	step                   int
	room                   int
	fifo                   []api.Frame
	dropped                int
	accept                 []api.Filter
	done, heard, lost, off bool
}

// bound is n, if it is a room that may be, else the nearest one.
func bound(n int) int {
	if n < 1 {
		return 1
	}
	if n > 1000 {
		return 1000
	}
	return n
}

func newModel(c api.Config) *model {
	return &model{boxes: make([]held, bound(c.Boxes)), room: bound(c.Fifo), accept: append([]api.Filter(nil), c.Accept...)}
}

func (m *model) load(p api.Packet) (int, api.Errno) {
	m.step++
	if frame.Key(p.Frame) == -1 {
		return 0, api.ErrFrame
	}
	for n := range m.boxes {
		if m.boxes[n].state == 0 {
			m.boxes[n] = held{state: 1, packet: p, put: m.step}
			return n, api.OK
		}
	}
	return 0, api.ErrFull
}

// best is the number of the best mailbox, or -1.
func (m *model) best() int {
	best := -1
	for n, h := range m.boxes {
		if h.state != 1 {
			continue
		}
		if best < 0 {
			best = n
			continue
		}
		old, key := frame.Key(m.boxes[best].packet.Frame), frame.Key(h.packet.Frame)
		if key < old || key == old && h.put < m.boxes[best].put {
			best = n
		}
	}
	return best
}

func (m *model) offer() (api.Frame, bool) {
	n := m.best()
	if n < 0 {
		return api.Frame{}, false
	}
	return m.boxes[n].packet.Frame, true
}

func (m *model) won() bool {
	m.step++
	n := m.best()
	if n < 0 {
		return false
	}
	m.boxes[n].state, m.boxes[n].ended = 2, m.step
	m.done = true
	return true
}

func (m *model) hear(f api.Frame) bool {
	if !through(m.accept, f) {
		return false
	}
	if len(m.fifo) == m.room {
		m.dropped++
		m.lost = true
		return false
	}
	m.fifo = append(m.fifo, f)
	m.heard = true
	return true
}

func (m *model) abort() int {
	n := 0
	for at := range m.boxes {
		m.step++
		if m.boxes[at].state == 1 {
			m.boxes[at].state, m.boxes[at].ended = 3, m.step
			m.done = true
			n++
		}
	}
	return n
}

func (m *model) end() (box.Done, api.Errno) {
	first := -1
	for n, h := range m.boxes {
		if h.state >= 2 && (first < 0 || h.ended < m.boxes[first].ended) {
			first = n
		}
	}
	if first < 0 {
		return box.Done{}, api.ErrEmpty
	}
	h := m.boxes[first]
	m.boxes[first] = held{}
	return done(first, h.packet, h.state == 2), api.OK
}

func (m *model) fetch() (api.Frame, api.Errno) {
	if len(m.fifo) == 0 {
		return api.Frame{}, api.ErrEmpty
	}
	f := m.fifo[0]
	m.fifo = m.fifo[1:]
	return f, api.OK
}

func (m *model) clear(bits int) {
	for n, bit := range []*bool{&m.done, &m.heard, &m.lost, &m.off} {
		if bits>>n%2 != 0 {
			*bit = false
		}
	}
}

func (m *model) asks() int {
	n := 0
	for i, bit := range []bool{m.done, m.heard, m.lost, m.off} {
		if bit {
			n += []int{1, 2, 4, 8}[i]
		}
	}
	return n
}

// states are the states, and how many are free.
func (m *model) states() ([]int, int) {
	var l []int
	free := 0
	for _, h := range m.boxes {
		l = append(l, h.state)
		if h.state == 0 {
			free++
		}
	}
	return l, free
}

// same fails if the controller and the model tell unlike things.
func same(t *testing.T, c *Ctrl, m *model) {
	t.Helper()
	states, free := m.states()
	if got := c.States(); !slices.Equal(got, states) || c.Free() != free {
		t.Fatalf("States %v, Free %d; not %v, %d", got, c.Free(), states, free)
	}
	f, is := c.Offer()
	if want, wantIs := m.offer(); f != want || is != wantIs {
		t.Fatalf("Offer %+v, %v; not %+v, %v", f, is, want, wantIs)
	}
	if c.Asks() != m.asks() || c.Kept() != len(m.fifo) || c.Lost() != m.dropped {
		t.Fatalf("Asks %d, Kept %d, Lost %d; not %d, %d, %d", c.Asks(), c.Kept(), c.Lost(), m.asks(), len(m.fifo), m.dropped)
	}
}

// load fails if the packet is not taken, or not by the mailbox that is wanted.
func load(t *testing.T, c *Ctrl, want int, p api.Packet) {
	t.Helper()
	if n, e := c.Load(p); n != want || e != api.OK {
		t.Fatalf("Load %+v: %d, %d; not %d", p, n, e, want)
	}
}

// offers fails if another frame is offered, or none.
func offers(t *testing.T, c *Ctrl, want api.Frame) {
	t.Helper()
	if f, is := c.Offer(); f != want || !is {
		t.Fatalf("Offer %+v, %v; not %+v", f, is, want)
	}
}

// idle fails if anything is offered, or can have won.
func idle(t *testing.T, c *Ctrl) {
	t.Helper()
	if f, is := c.Offer(); f != (api.Frame{}) || is {
		t.Fatalf("Offer %+v, %v", f, is)
	}
	before := c.Asks()
	if c.Won() || c.Asks() != before {
		t.Fatalf("Won, Asks %d, not %d", c.Asks(), before)
	}
}

// ends fails if another mailbox has ended first, or none.
func ends(t *testing.T, c *Ctrl, want box.Done) {
	t.Helper()
	if d, e := c.Ended(); d != want || e != api.OK {
		t.Fatalf("Ended %+v, %d; not %+v", d, e, want)
	}
}

// noneEnded fails if one has ended.
func noneEnded(t *testing.T, c *Ctrl) {
	t.Helper()
	if d, e := c.Ended(); d != (box.Done{}) || e != api.ErrEmpty {
		t.Fatalf("Ended %+v, %d", d, e)
	}
}

// fetches fails if the fifo's frames are others; it has none left then.
func fetches(t *testing.T, c *Ctrl, want ...api.Frame) {
	t.Helper()
	for n, w := range want {
		if c.Kept() != len(want)-n {
			t.Fatalf("Kept %d, not %d", c.Kept(), len(want)-n)
		}
		if f, e := c.Fetch(); f != w || e != api.OK {
			t.Fatalf("Fetch %d: %+v, %d; not %+v", n, f, e, w)
		}
	}
	if f, e := c.Fetch(); f != (api.Frame{}) || e != api.ErrEmpty || c.Kept() != 0 {
		t.Fatalf("Fetch behind all: %+v, %d, Kept %d", f, e, c.Kept())
	}
}

// won fails if nothing was offered.
func won(t *testing.T, c *Ctrl) {
	t.Helper()
	if !c.Won() {
		t.Fatal("not won")
	}
}

// asks fails if the register is another.
func asks(t *testing.T, c *Ctrl, want int) {
	t.Helper()
	if c.Asks() != want {
		t.Fatalf("Asks %d, not %d", c.Asks(), want)
	}
}

// states fails if the states are others.
func states(t *testing.T, c *Ctrl, want ...int) {
	t.Helper()
	if got := c.States(); !slices.Equal(got, want) {
		t.Fatalf("States %v, not %v", got, want)
	}
}

// rooms are rooms that may be, and that may not.
func rooms() []int {
	l := []int{math.MinInt, -1000, 999, 1000, 1001, 1002, 2000, 1 << 32, 1<<32 + 5, math.MaxInt}
	for n := -3; n <= 40; n++ {
		l = append(l, n)
	}
	return l
}

// P14.1: as many mailboxes as Boxes says, whatever else the config has; all is as at first
func TestNewBoxes(t *testing.T) {
	for _, n := range rooms() {
		c := New(api.Config{Boxes: n, Fifo: 3, Bands: 7, Depth: 8, Queue: 9, Nodes: 10, Recover: 11})
		same(t, c, newModel(api.Config{Boxes: n, Fifo: 3}))
		idle(t, c)
		noneEnded(t, c)
		fetches(t, c)
		asks(t, c, 0)
		for at := range bound(n) {
			load(t, c, at, packet(at, at))
		}
		if at, e := c.Load(packet(0, 0)); at != 0 || e != api.ErrFull {
			t.Fatalf("%d: one more: %d, %d", n, at, e)
		}
	}
}

// P14.1: room for as many frames as Fifo says
func TestNewFifo(t *testing.T) {
	for _, n := range rooms() {
		c := New(api.Config{Fifo: n, Boxes: 5, Bands: 7, Depth: 8, Queue: 9, Nodes: 10, Recover: 11})
		for at := range bound(n) {
			if !c.Hear(api.Frame{ID: at}) {
				t.Fatalf("%d: %d is lost", n, at)
			}
			asks(t, c, 2)
		}
		if c.Kept() != bound(n) || c.Lost() != 0 {
			t.Fatalf("%d: Kept %d, Lost %d", n, c.Kept(), c.Lost())
		}
		if c.Hear(api.Frame{}) || c.Kept() != bound(n) || c.Lost() != 1 {
			t.Fatalf("%d: one more: Kept %d, Lost %d", n, c.Kept(), c.Lost())
		}
		asks(t, c, 6)
	}
}

// P14.1: two controllers of one config share nothing
func TestNewTwo(t *testing.T) {
	config := api.Config{Boxes: 2, Fifo: 2, Accept: []api.Filter{{ID: 1, Mask: 1}}}
	a, b := New(config), New(config)
	load(t, a, 0, packet(5, 1))
	a.Hear(api.Frame{ID: 1})
	a.Off()
	same(t, b, newModel(config))
	won(t, a)
	load(t, b, 0, packet(6, 2))
	ends(t, a, done(0, packet(5, 1), true))
	offers(t, b, api.Frame{ID: 6})
	fetches(t, b)
	fetches(t, a, api.Frame{ID: 1})
	asks(t, a, 11)
	asks(t, b, 0)
}

// P14.2: Load
func TestLoad(t *testing.T) {
	c := New(api.Config{Boxes: 3})
	refused := func(p api.Packet, want api.Errno) {
		t.Helper()
		if n, e := c.Load(p); n != 0 || e != want {
			t.Fatalf("Load %+v: %d, %d; not %d", p, n, e, want)
		}
	}
	for n := range 4 {
		for _, f := range keyless() {
			refused(api.Packet{Frame: f, From: 1, Tag: 2, Loop: true}, api.ErrFrame)
		}
		if c.Free() != 3-n {
			t.Fatal(n, c.Free())
		}
		if n < 3 {
			load(t, c, n, packet(9-n, n))
		}
	}
	refused(packet(0, 9), api.ErrFull)
	asks(t, c, 0)
	// What has ended is not free, as long as it is not taken.
	won(t, c)
	refused(packet(0, 9), api.ErrFull)
	ends(t, c, done(2, packet(7, 2), true))
	load(t, c, 2, packet(0, 9))
	// Of those that are free the least number is taken.
	c.Abort()
	for range 3 {
		c.Ended()
	}
	for n := range 3 {
		load(t, c, n, packet(n, n))
	}
}

// P14.2: the whole packet comes back, of frames of all kinds
func TestLoadWhole(t *testing.T) {
	for _, f := range keyed() {
		for _, p := range []api.Packet{
			{Frame: f},
			{Frame: f, From: -1, Tag: math.MinInt},
			{Frame: f, From: math.MaxInt, Tag: math.MaxInt, Loop: true},
		} {
			c := New(api.Config{})
			load(t, c, 0, p)
			offers(t, c, f)
			won(t, c)
			ends(t, c, done(0, p, true))
			load(t, c, 0, p)
			c.Abort()
			ends(t, c, done(0, p, false))
			noneEnded(t, c)
		}
	}
}

// P14.2: filters are of what is heard: they keep nothing from being sent
func TestLoadPastFilters(t *testing.T) {
	c := New(api.Config{Accept: []api.Filter{{ID: 1, Mask: api.Narrow}}})
	load(t, c, 0, packet(2, 3))
	offers(t, c, api.Frame{ID: 2})
	won(t, c)
	ends(t, c, done(0, packet(2, 3), true))
}

// P14.2: Free, States, Ended
func TestFreeStatesEnded(t *testing.T) {
	c := New(api.Config{Boxes: 4})
	states(t, c, 0, 0, 0, 0)
	for n := range 3 {
		load(t, c, n, packet(3-n, n))
	}
	states(t, c, 1, 1, 1, 0)
	noneEnded(t, c)
	won(t, c)
	states(t, c, 1, 1, 2, 0)
	c.Abort()
	states(t, c, 3, 3, 2, 0)
	for n, want := range []box.Done{done(2, packet(1, 2), true), done(0, packet(3, 0), false), done(1, packet(2, 1), false)} {
		if c.Free() != n+1 {
			t.Fatal(n, c.Free())
		}
		ends(t, c, want)
	}
	states(t, c, 0, 0, 0, 0)
	noneEnded(t, c)
	if c.Free() != 4 {
		t.Fatal(c.Free())
	}
}

// P14.3: the least key first; of one key the one that was loaded first
func TestOfferWon(t *testing.T) {
	c := New(api.Config{Boxes: 6})
	idle(t, c)
	asks(t, c, 0)
	for n, id := range []int{5, 3, 9, 3, 0, 5} {
		load(t, c, n, packet(id, n))
	}
	for _, n := range []int{4, 1, 3, 0, 5, 2} {
		for range 2 {
			offers(t, c, api.Frame{ID: []int{5, 3, 9, 3, 0, 5}[n]})
		}
		asks(t, c, 0)
		won(t, c)
		asks(t, c, 1)
		if c.States()[n] != 2 {
			t.Fatal(n, c.States())
		}
		ends(t, c, done(n, packet([]int{5, 3, 9, 3, 0, 5}[n], n), true))
		// Taking it clears no bit.
		asks(t, c, 1)
		c.Clear(1)
	}
	idle(t, c)
	asks(t, c, 0)
}

// P14.3: a zero frame is offered with true, unlike none; what was aborted is not offered
func TestOfferZero(t *testing.T) {
	c := New(api.Config{Boxes: 2})
	load(t, c, 0, api.Packet{})
	offers(t, c, api.Frame{})
	won(t, c)
	idle(t, c)
	ends(t, c, done(0, api.Packet{}, true))
	load(t, c, 0, packet(4, 1))
	c.Abort()
	idle(t, c)
	load(t, c, 1, packet(7, 2))
	offers(t, c, api.Frame{ID: 7})
}

// filters are lists of filters of all kinds.
func filters() [][]api.Filter {
	return [][]api.Filter{
		nil,
		{},
		make([]api.Filter, 0, 5),
		{{}},
		{{Inv: true}},
		{{ID: 5, Mask: api.Narrow}},
		{{ID: 5, Mask: api.Narrow, Inv: true}},
		{{ID: 1, Mask: api.WordExt | api.WordRtr | api.Wide}},
		{{ID: 1 | api.WordExt, Mask: math.MaxUint32}},
		{{ID: 1 | api.WordRtr, Mask: math.MaxUint32}},
		{{ID: 256, Mask: 1792}},
		{{ID: 5, Mask: api.Narrow}, {ID: 256, Mask: 1792}},
		{{ID: 256, Mask: 1792}, {ID: 5, Mask: api.Narrow}},
		{{ID: 2, Mask: api.Narrow}, {ID: 3, Mask: api.Narrow}, {ID: api.WordExt, Mask: api.WordExt}},
		{{ID: 4, Mask: 4}, {ID: 1, Mask: 1, Inv: true}},
		{{ID: 7, Mask: api.Narrow}, {ID: 8, Mask: api.Narrow}},
		{{Inv: true}, {Inv: true}, {}},
		{{Mask: api.WordErr}},
		{{ID: api.WordErr, Mask: api.WordErr}},
		{{ID: api.WordErr, Mask: api.WordErr, Inv: true}},
	}
}

// P14.4: what the filters let through, and has a key, is heard, and nothing else
func TestHearAccept(t *testing.T) {
	for _, l := range filters() {
		some := 0
		for _, f := range append(keyed(), keyless()...) {
			c := New(api.Config{Fifo: 2, Accept: l})
			want := through(l, f)
			for n := 1; n <= 2; n++ {
				if got := c.Hear(f); got != want {
					t.Fatalf("%+v: Hear %+v: %v", l, f, got)
				}
				if want {
					asks(t, c, 2)
				} else {
					asks(t, c, 0)
				}
				if want && c.Kept() != n || !want && c.Kept() != 0 || c.Lost() != 0 {
					t.Fatalf("%+v: Hear %+v: Kept %d, Lost %d", l, f, c.Kept(), c.Lost())
				}
			}
			// Without room what is let through is lost, and what is not is passed over as ever.
			if c.Hear(f) {
				t.Fatalf("%+v: Hear %+v without room", l, f)
			}
			if want {
				asks(t, c, 6)
				fetches(t, c, f, f)
				some++
			} else {
				asks(t, c, 0)
				fetches(t, c)
			}
			if got := c.Lost(); want && got != 1 || !want && got != 0 {
				t.Fatalf("%+v: Hear %+v: Lost %d", l, f, got)
			}
		}
		if len(l) == 0 && some != len(keyed()) {
			t.Fatalf("%+v: %d", l, some)
		}
	}
}

// P14.4: one of the filters is enough, wherever it stands, however many there are
func TestHearMany(t *testing.T) {
	for _, many := range []int{1, 2, 3, 50, 512, 513, 3000} {
		for _, at := range []int{0, many / 2, many - 1} {
			l := make([]api.Filter, many)
			for n := range l {
				l[n] = api.Filter{ID: 7, Mask: math.MaxUint32}
			}
			l[at].ID = 9
			c := New(api.Config{Fifo: 1000, Accept: l})
			if !c.Hear(api.Frame{ID: 9}) || c.Hear(api.Frame{ID: 8}) || c.Hear(api.Frame{ID: 7}) != (many > 1) {
				t.Fatal(many, at)
			}
		}
	}
}

// P14.4: without room the frame is lost, with bit 4 alone; what has no key, or is not let through, is not lost
func TestHearLost(t *testing.T) {
	for room := 1; room <= 5; room++ {
		c := New(api.Config{Fifo: room, Accept: []api.Filter{{ID: 8, Mask: 8}}})
		for n := range room {
			if !c.Hear(api.Frame{ID: 8 | n}) {
				t.Fatal(room, n)
			}
		}
		c.Clear(2)
		for _, f := range keyless() {
			if c.Hear(f) {
				t.Fatal(f)
			}
		}
		if c.Hear(api.Frame{ID: 7}) || c.Lost() != 0 {
			t.Fatal(c.Lost())
		}
		asks(t, c, 0)
		for n := 1; n <= 3; n++ {
			if c.Hear(api.Frame{ID: 15}) || c.Lost() != n || c.Kept() != room {
				t.Fatal(n, c.Lost(), c.Kept())
			}
			asks(t, c, 4)
		}
		c.Clear(4)
		// One that is fetched leaves room for one.
		if f, e := c.Fetch(); f != (api.Frame{ID: 8}) || e != api.OK {
			t.Fatal(f, e)
		}
		asks(t, c, 0)
		if !c.Hear(api.Frame{ID: 9}) {
			t.Fatal(room)
		}
		asks(t, c, 2)
		if c.Hear(api.Frame{ID: 9}) || c.Lost() != 4 {
			t.Fatal(room, c.Lost())
		}
		asks(t, c, 6)
	}
}

// P14.5: what is heard is fetched in that order, each once; Lost stays
func TestFetch(t *testing.T) {
	c := New(api.Config{Fifo: 20})
	fetches(t, c)
	for range 3 {
		for _, f := range keyed() {
			if !c.Hear(f) {
				t.Fatal(f)
			}
		}
		fetches(t, c, keyed()...)
		asks(t, c, 2)
	}
	for n := range 25 {
		if c.Hear(api.Frame{ID: n}) != (n < 20) {
			t.Fatal(n)
		}
	}
	if c.Kept() != 20 || c.Lost() != 5 {
		t.Fatal(c.Kept(), c.Lost())
	}
	for n := range 20 {
		if f, e := c.Fetch(); f != (api.Frame{ID: n}) || e != api.OK || c.Kept() != 19-n || c.Lost() != 5 {
			t.Fatal(n, f, e)
		}
	}
	fetches(t, c)
	c.Clear(15)
	if c.Lost() != 5 {
		t.Fatal(c.Lost())
	}
}

// P14.6: Off gives its bit, and does nothing else
func TestOff(t *testing.T) {
	config := api.Config{Boxes: 3, Fifo: 2}
	c, m := New(config), newModel(config)
	load(t, c, 0, packet(5, 1))
	m.load(packet(5, 1))
	for range 2 {
		c.Off()
		m.off = true
		same(t, c, m)
		asks(t, c, 8)
	}
	// What comes behind it goes on as ever.
	load(t, c, 1, packet(4, 2))
	m.load(packet(4, 2))
	if !c.Hear(api.Frame{ID: 1}) || !m.hear(api.Frame{ID: 1}) {
		t.Fatal("not heard")
	}
	won(t, c)
	m.won()
	same(t, c, m)
	asks(t, c, 11)
	c.Clear(8)
	asks(t, c, 3)
	c.Off()
	asks(t, c, 11)
}

// P14.6: those that are ready are aborted by number, whatever their keys; others stay as they are
func TestAbort(t *testing.T) {
	c := New(api.Config{Boxes: 6})
	if c.Abort() != 0 {
		t.Fatal("nothing is ready")
	}
	asks(t, c, 0)
	for n := range 5 {
		load(t, c, n, packet([]int{7, 9, 1, 8, 0}[n], n))
	}
	won(t, c)
	won(t, c)
	c.Clear(1)
	states(t, c, 1, 1, 2, 1, 2, 0)
	if n := c.Abort(); n != 3 {
		t.Fatal(n)
	}
	asks(t, c, 1)
	states(t, c, 3, 3, 2, 3, 2, 0)
	idle(t, c)
	c.Clear(1)
	// There is none any more.
	if n := c.Abort(); n != 0 {
		t.Fatal(n)
	}
	asks(t, c, 0)
	states(t, c, 3, 3, 2, 3, 2, 0)
	for _, want := range []box.Done{
		done(4, packet(0, 4), true),
		done(2, packet(1, 2), true),
		done(0, packet(7, 0), false),
		done(1, packet(9, 1), false),
		done(3, packet(8, 3), false),
	} {
		ends(t, c, want)
	}
	noneEnded(t, c)
	if n := c.Abort(); n != 0 || c.Free() != 6 {
		t.Fatal(n, c.Free())
	}
	asks(t, c, 0)
}

// P14.6: any number of mailboxes is aborted, from 0 on, though the last one is the best
func TestAbortMany(t *testing.T) {
	for _, many := range []int{1, 2, 3, 17, 1000} {
		for _, ready := range []int{1, many/2 + 1, many} {
			if ready > many {
				continue
			}
			c := New(api.Config{Boxes: many})
			for n := range ready {
				load(t, c, n, packet(1000-n, n))
			}
			if n := c.Abort(); n != ready {
				t.Fatalf("%d of %d: %d", ready, many, n)
			}
			asks(t, c, 1)
			for n := range ready {
				ends(t, c, done(n, packet(1000-n, n), false))
			}
			noneEnded(t, c)
		}
	}
}

// given makes a controller's register this one.
func given(t *testing.T, bits int) *Ctrl {
	t.Helper()
	c := New(api.Config{})
	if bits&1 != 0 {
		load(t, c, 0, packet(1, 1))
		won(t, c)
	}
	if bits&6 != 0 {
		c.Hear(api.Frame{})
	}
	if bits&4 != 0 {
		c.Hear(api.Frame{})
	}
	if bits&2 == 0 {
		c.Clear(2)
	}
	if bits&8 != 0 {
		c.Off()
	}
	asks(t, c, bits)
	return c
}

// P14.7: Clear takes these bits, and no others
func TestClear(t *testing.T) {
	for bits := range 16 {
		for _, what := range []int{-16, -15, -9, -8, -1, math.MinInt, math.MinInt + 6, math.MaxInt, math.MaxInt - 5, 16, 24, 1 << 32, 1<<32 + 3} {
			c := given(t, bits)
			c.Clear(what)
			asks(t, c, bits-bits&(what&15))
		}
		for what := range 16 {
			c := given(t, bits)
			kept, lost, free := c.Kept(), c.Lost(), c.Free()
			for range 2 {
				c.Clear(what)
				want := 0
				for _, bit := range []int{1, 2, 4, 8} {
					if bits/bit%2 == 1 && what/bit%2 == 0 {
						want += bit
					}
				}
				asks(t, c, want)
			}
			// What the bits told of stays.
			if c.Kept() != kept || c.Lost() != lost || c.Free() != free {
				t.Fatal(bits, what)
			}
			c.Clear(15)
			asks(t, c, 0)
		}
	}
}

// P14.7: a bit that was cleared comes again
func TestClearAgain(t *testing.T) {
	c := New(api.Config{Boxes: 3})
	for range 3 {
		load(t, c, 0, packet(1, 1))
		load(t, c, 1, packet(2, 2))
		won(t, c)
		asks(t, c, 1)
		c.Clear(1)
		asks(t, c, 0)
		c.Abort()
		asks(t, c, 1)
		c.Hear(api.Frame{})
		asks(t, c, 3)
		c.Clear(3)
		c.Hear(api.Frame{})
		asks(t, c, 4)
		c.Off()
		asks(t, c, 12)
		c.Clear(12)
		asks(t, c, 0)
		c.Ended()
		c.Ended()
		c.Fetch()
		asks(t, c, 0)
	}
}

// P14.8: nil
func TestNil(t *testing.T) {
	var c *Ctrl
	for range 2 {
		for _, f := range append(keyless(), keyed()...) {
			if n, e := c.Load(api.Packet{Frame: f}); n != 0 || e != api.ErrNil {
				t.Fatal("Load:", n, e)
			}
			if c.Hear(f) {
				t.Fatal("Hear")
			}
		}
		if f, is := c.Offer(); f != (api.Frame{}) || is || c.Won() {
			t.Fatal("Offer:", f, is)
		}
		c.Off()
		for _, bits := range []int{math.MinInt, -1, 0, 1, 15, math.MaxInt} {
			c.Clear(bits)
		}
		if d, e := c.Ended(); d != (box.Done{}) || e != api.ErrNil {
			t.Fatal("Ended:", d, e)
		}
		if f, e := c.Fetch(); f != (api.Frame{}) || e != api.ErrNil {
			t.Fatal("Fetch:", f, e)
		}
		if c.Asks() != 0 || c.Abort() != 0 || c.Free() != 0 || len(c.States()) != 0 || c.Lost() != 0 || c.Kept() != 0 {
			t.Fatal(c.Asks(), c.Abort(), c.Free(), c.States(), c.Lost(), c.Kept())
		}
	}
}

// P1: a controller that New did not make has no mailboxes, and no room, and no call of it panics
func TestZeroCtrl(t *testing.T) {
	var c Ctrl
	for n := 1; n <= 2; n++ {
		if at, e := c.Load(packet(5, 1)); at != 0 || e != api.ErrFull {
			t.Fatal(at, e)
		}
		if at, e := c.Load(packet(-1, 1)); at != 0 || e != api.ErrFrame {
			t.Fatal(at, e)
		}
		if c.Hear(api.Frame{ID: -1}) || c.Hear(api.Frame{ID: 1}) || c.Lost() != n {
			t.Fatal(c.Lost())
		}
		idle(t, &c)
		noneEnded(t, &c)
		fetches(t, &c)
		if c.Abort() != 0 || c.Free() != 0 || len(c.States()) != 0 {
			t.Fatal(c.Free(), c.States())
		}
		asks(t, &c, 4)
		c.Off()
		asks(t, &c, 12)
		c.Clear(8)
	}
}

// A controller has the chapter's calls alone: none of its parts' own calls gets by the register.
func TestCalls(t *testing.T) {
	var names []string
	typ := reflect.TypeOf(&Ctrl{})
	for n := range typ.NumMethod() {
		names = append(names, typ.Method(n).Name)
	}
	want := []string{"Abort", "Asks", "Clear", "Ended", "Fetch", "Free", "Hear", "Kept", "Load", "Lost", "Off", "Offer", "States", "Won"}
	if !slices.Equal(names, want) {
		t.Errorf("%v, not %v", names, want)
	}
	for _, f := range reflect.VisibleFields(typ.Elem()) {
		if f.IsExported() {
			t.Error(f.Name)
		}
	}
}

// someFrame is one that may often not be, if wrong.
func someFrame(random *rand.Rand, wrong bool) api.Frame {
	l := keyed()
	if wrong && random.Intn(6) == 0 {
		l = keyless()
	}
	return l[random.Intn(len(l))]
}

// someConfig is one of a small controller.
func someConfig(random *rand.Rand) api.Config {
	all := filters()
	return api.Config{Boxes: random.Intn(7), Fifo: random.Intn(7), Accept: all[random.Intn(len(all))]}
}

// step is a call of both the controller and the model, and fails if they answer unlike things.
func step(t *testing.T, what, bits int, f api.Frame, c *Ctrl, m *model) {
	t.Helper()
	switch what % 10 {
	case 0, 1:
		p := api.Packet{Frame: f, From: bits, Tag: m.step, Loop: bits%2 == 0}
		n, e := c.Load(p)
		if wantN, want := m.load(p); n != wantN || e != want {
			t.Fatalf("Load %+v: %d, %d; not %d, %d", p, n, e, wantN, want)
		}
	case 2, 3:
		if got, want := c.Hear(f), m.hear(f); got != want {
			t.Fatalf("Hear %+v: %v", f, got)
		}
	case 4:
		if got, want := c.Won(), m.won(); got != want {
			t.Fatalf("Won: %v", got)
		}
	case 5:
		d, e := c.Ended()
		if wantD, want := m.end(); d != wantD || e != want {
			t.Fatalf("Ended: %+v, %d; not %+v, %d", d, e, wantD, want)
		}
	case 6:
		got, e := c.Fetch()
		if wantF, want := m.fetch(); got != wantF || e != want {
			t.Fatalf("Fetch: %+v, %d; not %+v, %d", got, e, wantF, want)
		}
	case 7:
		c.Clear(bits)
		m.clear(bits)
	case 8:
		if n, want := c.Abort(), m.abort(); n != want {
			t.Fatalf("Abort: %d, not %d", n, want)
		}
	case 9:
		c.Off()
		m.off = true
	}
}

// P14.1 to P14.7: long ways of controllers, by chance
func TestLongWays(t *testing.T) {
	random := rand.New(rand.NewSource(146))
	for n := range 400 {
		config := someConfig(random)
		c, m := New(config), newModel(config)
		same(t, c, m)
		for range 500 {
			what := random.Intn(10)
			// Seldom is all aborted, or off, so that rows grow.
			if what >= 8 && random.Intn(4) > 0 {
				what = random.Intn(4)
			}
			if n%3 == 0 && what > 3 && random.Intn(2) == 0 {
				what = 4 + random.Intn(3)
			}
			step(t, what, random.Intn(20)-2, someFrame(random, true), c, m)
			same(t, c, m)
		}
	}
}

// P14.1 to P14.7: all short ways of small controllers
func TestShortWays(t *testing.T) {
	for _, size := range [][2]int{{1, 1}, {2, 1}, {1, 2}} {
		for way := range 100000 {
			config := api.Config{Boxes: size[0], Fifo: size[1], Accept: []api.Filter{{ID: 1, Mask: 1, Inv: true}}}
			c, m := New(config), newModel(config)
			for n, w := 0, way; n < 5; n, w = n+1, w/10 {
				// Of two calls of a kind one is of a frame that the filter lets through, and has the less key.
				id := 2 - n%2
				if w%2 == 1 {
					id = 4
				}
				step(t, w, w%10+n, api.Frame{ID: id}, c, m)
			}
			same(t, c, m)
		}
	}
}

// P14.9: what is fetched is what was heard and let through, in that order, but for what was lost; of it as many as were let through are fetched, kept or lost
func TestFetchedIsHeard(t *testing.T) {
	random := rand.New(rand.NewSource(149))
	total, gone := 0, 0
	for range 300 {
		config := someConfig(random)
		c := New(config)
		let, fetched, lost := 0, 0, 0
		var row []api.Frame // those that were put into the fifo, and not fetched yet
		fetch := func() bool {
			f, e := c.Fetch()
			if e != api.OK {
				return false
			}
			if len(row) == 0 || f != row[0] {
				t.Fatalf("%+v, not the first one of %v", f, row)
			}
			row = row[1:]
			fetched++
			return true
		}
		for range 300 {
			if random.Intn(5) < 2 {
				fetch()
				continue
			}
			f := someFrame(random, true)
			was := c.Hear(f)
			if through(config.Accept, f) {
				let++
			} else if was {
				t.Fatalf("%+v: %+v", config.Accept, f)
			}
			if was {
				row = append(row, f)
			} else if through(config.Accept, f) {
				lost++
			}
			if c.Lost() != lost || let != fetched+c.Kept()+c.Lost() {
				t.Fatalf("%d let through, %d fetched, %d kept, %d lost", let, fetched, c.Kept(), c.Lost())
			}
		}
		for fetch() {
		}
		if len(row) != 0 || let != fetched+c.Lost() {
			t.Fatal(len(row), let, fetched, c.Lost())
		}
		total += fetched
		gone += lost
	}
	if total < 2000 || gone < 2000 {
		t.Fatal(total, gone)
	}
}

// P14.10: a bit of the register that is not cleared stays, whatever comes behind it
func TestBitsStay(t *testing.T) {
	random := rand.New(rand.NewSource(1410))
	for bits := range 16 {
		for range 60 {
			c := given(t, bits)
			left := bits
			for range 100 {
				switch what := random.Intn(9); what {
				case 0:
					c.Load(packet(random.Intn(5), 1))
				case 1:
					c.Hear(someFrame(random, true))
				case 2:
					c.Won()
				case 3:
					c.Ended()
				case 4:
					c.Fetch()
				case 5:
					c.Abort()
				case 6:
					if random.Intn(5) == 0 {
						cleared := 1 << random.Intn(4)
						c.Clear(cleared)
						left &^= cleared
					}
				case 7:
					// Clearing what is not asked takes nothing.
					c.Clear(15 &^ left &^ c.Asks())
				case 8:
					c.Free()
					c.States()
					c.Offer()
				}
				if c.Asks()&left != left {
					t.Fatalf("%d, of which %d is cleared: Asks %d", bits, bits&^left, c.Asks())
				}
				left = c.Asks()
			}
		}
	}
}

// Rule 3: what is handed in is neither changed nor kept, what is handed out is the caller's own
func TestOwn(t *testing.T) {
	l := []api.Filter{{ID: 1, Mask: api.Narrow}, {ID: 2, Mask: api.Narrow}, {ID: 9}}
	c := New(api.Config{Boxes: 3, Fifo: 5, Accept: l[:2]})
	if !slices.Equal(l, []api.Filter{{ID: 1, Mask: api.Narrow}, {ID: 2, Mask: api.Narrow}, {ID: 9}}) {
		t.Fatal(l)
	}
	for n := range l {
		l[n] = api.Filter{ID: 3, Mask: api.Narrow}
	}
	if c.Hear(api.Frame{ID: 3}) || !c.Hear(api.Frame{ID: 1}) || !c.Hear(api.Frame{ID: 2}) {
		t.Fatal("the filters are the caller's")
	}
	fetches(t, c, api.Frame{ID: 1}, api.Frame{ID: 2})

	load(t, c, 0, packet(5, 1))
	load(t, c, 1, packet(4, 2))
	won(t, c)
	first, second := c.States(), c.States()
	for n := range first {
		first[n] = 9
	}
	_ = append(first[:1], 8)
	if !slices.Equal(second, []int{1, 2, 0}) {
		t.Fatal(second)
	}
	states(t, c, 1, 2, 0)
	c.Abort()
	if !slices.Equal(second, []int{1, 2, 0}) {
		t.Fatal(second)
	}
}

// What went through is not kept.
func TestNothingKept(t *testing.T) {
	config := api.Config{Boxes: 2, Fifo: 2}
	c, m := New(config), newModel(config)
	for n := range 5000 {
		load(t, c, 0, api.Packet{Frame: api.Frame{ID: n % 7, Len: 3, Data: "abc"}, From: n, Tag: n, Loop: true})
		won(t, c)
		c.Ended()
		if !c.Hear(api.Frame{ID: n % 9, Len: 3, Data: "xyz"}) {
			t.Fatal(n)
		}
		c.Fetch()
		c.Clear(3)
		same(t, c, m)
	}
	for _, f := range c.fifo.All() {
		t.Error(f)
	}
}

// P1: many calls end soon, though all is as great as may be
func TestGreat(t *testing.T) {
	begun := time.Now()
	l := make([]api.Filter, 512)
	for n := range l {
		l[n] = api.Filter{ID: 7, Mask: math.MaxUint32}
	}
	l[511] = api.Filter{}
	c := New(api.Config{Boxes: api.MaxRoom, Fifo: api.MaxRoom, Accept: l})
	for n := range 20000 {
		c.Load(packet(n%2048, n))
		if c.Free() == 0 && n%3 == 0 {
			won(t, c)
			c.Ended()
		}
		if c.Hear(api.Frame{ID: n % 2048}) != (n < 1000) {
			t.Fatal(n)
		}
	}
	if c.Kept() != 1000 || c.Lost() != 19000 {
		t.Fatal(c.Kept(), c.Lost())
	}
	for range 20 {
		for c.Free() > 0 {
			if _, e := c.Load(packet(1, 1)); e != api.OK {
				t.Fatal(e)
			}
		}
		if n := c.Abort(); n != 1000 {
			t.Fatal(n)
		}
		for c.Free() < 1000 {
			c.Ended()
		}
	}
	if n := time.Since(begun); n > 20*time.Second {
		t.Error(n)
	}
}

// P2: calls that are refused, and those that ask, change nothing that a later one could tell.
func TestRefusedCallsChangeNothing(t *testing.T) {
	random := rand.New(rand.NewSource(2))
	for range 60 {
		config := someConfig(random)
		c, m := New(config), newModel(config)
		for range 100 {
			for _, f := range keyless() {
				if n, e := c.Load(api.Packet{Frame: f}); n != 0 || e != api.ErrFrame {
					t.Fatal(f, n, e)
				}
				if c.Hear(f) {
					t.Fatal(f)
				}
			}
			for _, f := range keyed() {
				if !through(config.Accept, f) && c.Hear(f) {
					t.Fatal(f)
				}
			}
			if c.Free() == 0 {
				if n, e := c.Load(packet(0, 5)); n != 0 || e != api.ErrFull {
					t.Fatal(n, e)
				}
			}
			if _, is := c.Offer(); !is && (c.Won() || c.Abort() != 0) {
				t.Fatal("nothing is ready")
			}
			if !slices.Contains(c.States(), 2) && !slices.Contains(c.States(), 3) {
				noneEnded(t, c)
			}
			if c.Kept() == 0 {
				fetches(t, c)
			}
			same(t, c, m)
			step(t, random.Intn(8), random.Intn(16), someFrame(random, true), c, m)
		}
	}
}

// The chapter's example.
func TestExample(t *testing.T) {
	c := New(api.Config{Fifo: 1})
	a, b := c.Hear(api.Frame{ID: 1}), c.Hear(api.Frame{ID: 2})
	if !a || b || c.Kept() != 1 || c.Lost() != 1 {
		t.Fatal(a, b, c.Kept(), c.Lost())
	}
	asks(t, c, 6)
	fetches(t, c, api.Frame{ID: 1})
}

// P1: all calls end, at all arguments, and hold together.
func FuzzCallsEnd(f *testing.F) {
	f.Add(3, 2, "0123456789", uint32(1), uint32(1), false, 5, 0, 0, "", 0)
	f.Add(0, 0, "22662277", uint32(8), uint32(8), true, 1, 8, 12, "123456789012", -1)
	f.Add(math.MaxInt, math.MaxInt, "018555", uint32(math.MaxUint32), uint32(math.MaxUint32), true, math.MaxInt, 63, -1, "a", math.MaxInt)
	f.Add(math.MinInt, math.MinInt, "9794", uint32(0), uint32(0), false, -1, -1, math.MinInt, "", math.MinInt)
	f.Fuzz(func(t *testing.T, boxes, fifo int, way string, id, mask uint32, inv bool, frameID, flags, n int, data string, bits int) {
		config := api.Config{Boxes: boxes, Fifo: fifo, Accept: []api.Filter{{ID: id, Mask: mask, Inv: inv}, {ID: 3, Mask: 7}}}
		if bits%3 == 0 {
			config.Accept = nil
		}
		c, m := New(config), newModel(config)
		for i, what := range []byte(way) {
			x := api.Frame{ID: int(what)}
			if what&128 != 0 {
				x = api.Frame{ID: frameID, Flags: flags, Len: n, Data: data}
			}
			step(t, int(what&127), bits+i, x, c, m)
			if i < 50 {
				same(t, c, m)
			}
		}
		same(t, c, m)
	})
}
