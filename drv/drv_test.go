package drv

import (
	"math"
	"math/rand"
	"reflect"
	"slices"
	"testing"
	"time"

	"signalbox/api"
	"signalbox/frame"
)

// packet is one with a frame of this ID, and this number.
func packet(id, tag int) api.Packet {
	return api.Packet{Frame: api.Frame{ID: id}, Tag: tag}
}

// packets are some with frames of one ID, and these numbers.
func packets(tags ...int) []api.Packet {
	var l []api.Packet
	for _, tag := range tags {
		l = append(l, packet(5, tag))
	}
	return l
}

// keyless are frames that have no key: those that tell of errors, and those that may not be.
func keyless() []api.Frame {
	return []api.Frame{
		{Flags: api.Err, Len: 8, Data: "12345678"},
		{ID: api.Wide, Flags: api.Err, Len: 8, Data: "12345678"},
		{Flags: api.Err},
		{ID: -1},
		{ID: 2048},
		{ID: 1 << 29, Flags: api.Ext},
		{ID: math.MaxInt},
		{ID: math.MinInt},
		{Len: 1},
		{Data: "a"},
		{Len: 9, Data: "123456789"},
		{Len: math.MaxInt},
		{Len: -1},
		{Flags: api.Rtr, Len: 1, Data: "a"},
		{Flags: api.Rtr | api.Fd},
		{Flags: api.Brs},
		{Flags: 64},
		{Flags: -1},
	}
}

// keyed are frames of all kinds that have a key.
func keyed() []api.Frame {
	return []api.Frame{
		{},
		{ID: 1},
		{ID: 1, Flags: api.Rtr},
		{ID: 1, Flags: api.Ext | api.Rtr, Len: 8},
		{ID: 5, Len: 2, Data: "ab"},
		{ID: 5, Flags: api.Fd, Len: 12, Data: "123456789012"},
		{ID: 6, Flags: api.Fd | api.Brs | api.Esi},
		{ID: 256, Len: 8, Data: "12345678"},
		{ID: 511, Flags: api.Fd | api.Brs, Len: 64, Data: string(make([]byte, 64))},
		{ID: api.Narrow, Flags: api.Rtr, Len: 8},
		{ID: api.Wide, Flags: api.Ext | api.Fd},
	}
}

// rooms are rooms that may be, and that may not.
func rooms() []int {
	l := []int{math.MinInt, -1000, 999, 1000, 1001, 2000, 1 << 32, 1<<32 + 5, math.MaxInt}
	for n := -2; n <= 12; n++ {
		l = append(l, n)
	}
	return l
}

// bound is n, if it is a room that may be, else the nearest one.
func bound(n int) int {
	if n < 1 {
		return 1
	}
	if n > 1000 {
		return 1000
	}
	return n
}

// held is what a model knows of a mailbox that is not free.
type held struct {
	box    int
	packet api.Packet
	sent   bool
}

// model is a driver told otherwise than by the program: without parts, and with all that is not queued in two rows, of what is ready and of what has ended.
type model struct {
	state      int
	bands      [][]api.Packet
	depth      int
	many, room int
	accept     []api.Filter
	ready      []held // in the order in which they were loaded
	ended      []held // in the order in which they ended
	fifo       []api.Frame
	dropped    int
	stats      Stats
}

func newModel(c api.Config) *model {
	return &model{
		bands:  make([][]api.Packet, bound(c.Bands)),
		depth:  bound(c.Depth),
		many:   bound(c.Boxes),
		room:   bound(c.Fifo),
		accept: append([]api.Filter(nil), c.Accept...),
	}
}

// boxes are the mailboxes' states.
func (m *model) boxes() []int {
	l := make([]int, m.many)
	for _, h := range m.ready {
		l[h.box] = 1
	}
	for _, h := range m.ended {
		l[h.box] = 3
		if h.sent {
			l[h.box] = 2
		}
	}
	return l
}

func (m *model) queued() []api.Packet {
	return slices.Concat(m.bands...)
}

func (m *model) push() {
	for m.state == 1 {
		box, band := slices.Index(m.boxes(), 0), 0
		for band < len(m.bands) && len(m.bands[band]) == 0 {
			band++
		}
		if box < 0 || band == len(m.bands) {
			return
		}
		m.ready = append(m.ready, held{box: box, packet: m.bands[band][0]})
		m.bands[band] = m.bands[band][1:]
	}
}

func (m *model) up() api.Errno {
	if m.state != 0 {
		return api.ErrArg
	}
	m.state, m.dropped = 1, 0
	return api.OK
}

func (m *model) down() api.Errno {
	if m.state == 0 {
		return api.ErrDown
	}
	m.state = 0
	m.ready, m.ended, m.fifo = nil, nil, nil
	m.bands = make([][]api.Packet, len(m.bands))
	return api.OK
}

func (m *model) send(band int, p api.Packet) api.Errno {
	if m.state == 0 {
		return api.ErrDown
	}
	if frame.Key(p.Frame) == -1 {
		return api.ErrFrame
	}
	if len(m.queued()) == m.depth {
		return api.ErrFull
	}
	if band < 0 {
		band = 0
	}
	if band >= len(m.bands) {
		band = len(m.bands) - 1
	}
	m.bands[band] = append(m.bands[band], p)
	m.push()
	return api.OK
}

// best is the place, among what is ready, of what is offered, or -1.
func (m *model) best() int {
	best := -1
	for n, h := range m.ready {
		if m.state == 1 && (best < 0 || frame.Key(h.packet.Frame) < frame.Key(m.ready[best].packet.Frame)) {
			best = n
		}
	}
	return best
}

func (m *model) offer() (api.Frame, bool) {
	n := m.best()
	if n < 0 {
		return api.Frame{}, false
	}
	return m.ready[n].packet.Frame, true
}

func (m *model) won() bool {
	n := m.best()
	if n < 0 {
		return false
	}
	h := m.ready[n]
	h.sent = true
	m.ready, m.ended = slices.Delete(m.ready, n, n+1), append(m.ended, h)
	return true
}

func (m *model) hear(f api.Frame) bool {
	if m.state != 1 || frame.Key(f) == -1 {
		return false
	}
	is := len(m.accept) == 0
	for _, a := range m.accept {
		if (frame.Word(f)^a.ID)&a.Mask == 0 != a.Inv {
			is = true
		}
	}
	if is && len(m.fifo) == m.room {
		m.dropped++
		return false
	}
	if is {
		m.fifo = append(m.fifo, f)
	}
	return is
}

func (m *model) tx() (Echo, api.Errno) {
	if m.state == 0 {
		return Echo{}, api.ErrDown
	}
	if len(m.ended) == 0 {
		return Echo{}, api.ErrEmpty
	}
	h := m.ended[0]
	m.ended = m.ended[1:]
	if h.sent {
		m.stats.TxFrames++
		m.stats.TxBytes += h.packet.Frame.Len
	} else {
		m.stats.Aborted++
	}
	m.push()
	return Echo{h.packet, h.sent}, api.OK
}

func (m *model) rx() (api.Frame, api.Errno) {
	if m.state == 0 {
		return api.Frame{}, api.ErrDown
	}
	if len(m.fifo) == 0 {
		return api.Frame{}, api.ErrEmpty
	}
	f := m.fifo[0]
	m.fifo = m.fifo[1:]
	m.stats.RxFrames++
	m.stats.RxBytes += f.Len
	return f, api.OK
}

func (m *model) off() {
	if m.state == 1 || m.state == 3 {
		m.state = 2
	}
}

func (m *model) fix() api.Errno {
	if m.state != 2 {
		return api.ErrArg
	}
	m.state = 3
	m.stats.Fixed++
	slices.SortFunc(m.ready, func(a, b held) int { return a.box - b.box })
	m.ended, m.ready = append(m.ended, m.ready...), nil
	return api.OK
}

func (m *model) back() {
	if m.state == 3 {
		m.state = 1
		m.push()
	}
}

// same fails if the driver and the model tell unlike things.
func same(t *testing.T, d *Driver, m *model) {
	t.Helper()
	if d.State() != m.state || d.Stats() != m.stats {
		t.Fatalf("State %d, Stats %+v; not %d, %+v", d.State(), d.Stats(), m.state, m.stats)
	}
	if d.Kept() != len(m.fifo) || d.Lost() != m.dropped {
		t.Fatalf("Kept %d, Lost %d; not %d, %d", d.Kept(), d.Lost(), len(m.fifo), m.dropped)
	}
	if got, want := d.Boxes(), m.boxes(); !slices.Equal(got, want) {
		t.Fatalf("Boxes %v, not %v", got, want)
	}
	if got, want := d.Queued(), m.queued(); !slices.Equal(got, want) {
		t.Fatalf("Queued %v, not %v", got, want)
	}
	f, is := d.Offer()
	if want, wantIs := m.offer(); f != want || is != wantIs {
		t.Fatalf("Offer %+v, %v; not %+v, %v", f, is, want, wantIs)
	}
}

// ok fails if a call was refused.
func ok(t *testing.T, e api.Errno) {
	t.Helper()
	if e != api.OK {
		t.Fatalf("refused: %d", e)
	}
}

// refused fails if a call was not refused, or otherwise.
func refused(t *testing.T, e, want api.Errno) {
	t.Helper()
	if e != want {
		t.Fatalf("%d, not %d", e, want)
	}
}

// send fails if one of the packets is not taken.
func send(t *testing.T, d *Driver, l ...api.Packet) {
	t.Helper()
	for _, p := range l {
		if e := d.Send(0, p); e != api.OK {
			t.Fatalf("Send %+v: %d", p, e)
		}
	}
}

// hear fails if one of the frames is not put into the fifo.
func hear(t *testing.T, d *Driver, l ...api.Frame) {
	t.Helper()
	for _, f := range l {
		if !d.Hear(f) {
			t.Fatalf("%+v is not heard", f)
		}
	}
}

// won fails if nothing was offered.
func won(t *testing.T, d *Driver) {
	t.Helper()
	if !d.Won() {
		t.Fatal("not won")
	}
}

// tx fails if another packet has ended first, or none.
func tx(t *testing.T, d *Driver, p api.Packet, sent bool) {
	t.Helper()
	if x, e := d.Tx(); x != (Echo{p, sent}) || e != api.OK {
		t.Fatalf("Tx %+v, %d; not %+v, %v", x, e, p, sent)
	}
}

// noTx fails if a packet has ended, or its being none is told otherwise.
func noTx(t *testing.T, d *Driver, want api.Errno) {
	t.Helper()
	if x, e := d.Tx(); x != (Echo{}) || e != want {
		t.Fatalf("Tx %+v, %d; not %d", x, e, want)
	}
}

// rx fails if another frame is the first one, or none.
func rx(t *testing.T, d *Driver, want api.Frame) {
	t.Helper()
	if f, e := d.Rx(); f != want || e != api.OK {
		t.Fatalf("Rx %+v, %d; not %+v", f, e, want)
	}
}

// noRx fails if there is a frame, or its being none is told otherwise.
func noRx(t *testing.T, d *Driver, want api.Errno) {
	t.Helper()
	if f, e := d.Rx(); f != (api.Frame{}) || e != want {
		t.Fatalf("Rx %+v, %d; not %d", f, e, want)
	}
}

// boxes fails if the mailboxes' states are others.
func boxes(t *testing.T, d *Driver, want ...int) {
	t.Helper()
	if got := d.Boxes(); !slices.Equal(got, want) {
		t.Fatalf("Boxes %v, not %v", got, want)
	}
}

// queued fails if other packets are queued, or in another order.
func queued(t *testing.T, d *Driver, tags ...int) {
	t.Helper()
	var got []int
	for _, p := range d.Queued() {
		got = append(got, p.Tag)
	}
	if !slices.Equal(got, tags) {
		t.Fatalf("Queued %v, not %v", got, tags)
	}
}

// stats fails if the numbers are others.
func stats(t *testing.T, d *Driver, want Stats) {
	t.Helper()
	if got := d.Stats(); got != want {
		t.Fatalf("Stats %+v, not %+v", got, want)
	}
}

// state fails if the state is another one.
func state(t *testing.T, d *Driver, want int) {
	t.Helper()
	if d.State() != want {
		t.Fatalf("State %d, not %d", d.State(), want)
	}
}

// asks fails if the controller's register is another.
func asks(t *testing.T, d *Driver, want int) {
	t.Helper()
	if got := d.control.Asks(); got != want {
		t.Fatalf("the register is %d, not %d", got, want)
	}
}

// started is a driver that is up.
func started(t *testing.T, c api.Config) *Driver {
	t.Helper()
	d := New(c)
	ok(t, d.Up())
	return d
}

// to brings a driver that is up to the state.
func to(t *testing.T, d *Driver, want int) *Driver {
	t.Helper()
	switch want {
	case 0:
		ok(t, d.Down())
	case 2:
		d.Off()
	case 3:
		d.Off()
		ok(t, d.Fix())
	}
	state(t, d, want)
	return d
}

// P17.1: a new driver is down, and all is as at first
func TestNewDown(t *testing.T) {
	for _, n := range rooms() {
		c := api.Config{Boxes: n, Fifo: n, Bands: n, Depth: n, Queue: n, Nodes: n, Recover: n}
		d := New(c)
		same(t, d, newModel(c))
		state(t, d, 0)
		stats(t, d, Stats{})
		noTx(t, d, api.ErrDown)
		noRx(t, d, api.ErrDown)
		refused(t, d.Down(), api.ErrDown)
		refused(t, d.Send(0, packet(5, 1)), api.ErrDown)
		same(t, d, newModel(c))
	}
}

// P17.1: as many mailboxes, and places of the echo table, as Boxes says, and as much room in the queue as Depth says, whatever else the config has
func TestNewBoxesDepth(t *testing.T) {
	other := api.Config{Fifo: 7, Bands: 3, Queue: 4, Nodes: 5, Recover: 6}
	for _, n := range rooms() {
		for _, depth := range []int{-1, 1, 2, 7} {
			for _, turned := range []bool{false, true} {
				c := other
				c.Boxes, c.Depth = n, depth
				if turned {
					c.Boxes, c.Depth = depth, n
				}
				d := started(t, c)
				all := bound(n) + bound(depth)
				for tag := range all {
					send(t, d, packet(5, tag))
					if got := len(d.Queued()); got != max(tag+1-bound(c.Boxes), 0) {
						t.Fatal(c, tag, got)
					}
				}
				refused(t, d.Send(0, packet(5, all)), api.ErrFull)
				for tag := range all {
					won(t, d)
					tx(t, d, packet(5, tag), true)
				}
				noTx(t, d, api.ErrEmpty)
			}
		}
	}
}

// P17.1: as much room in the fifo as Fifo says, and the hardware filters Accept
func TestNewFifo(t *testing.T) {
	for _, n := range rooms() {
		d := started(t, api.Config{Fifo: n, Boxes: 5, Bands: 6, Depth: 7, Accept: []api.Filter{{Mask: 1 << 10}}})
		if d.Hear(api.Frame{ID: 1 << 10}) || d.Kept() != 0 || d.Lost() != 0 {
			t.Fatal("heard past the filter")
		}
		for id := range bound(n) {
			hear(t, d, api.Frame{ID: id})
		}
		if d.Kept() != bound(n) || d.Lost() != 0 || d.Hear(api.Frame{}) || d.Kept() != bound(n) || d.Lost() != 1 {
			t.Fatalf("%d: Kept %d, Lost %d", n, d.Kept(), d.Lost())
		}
	}
}

// P17.1: as many bands as Bands says; a band beyond them is the nearest one
func TestNewBands(t *testing.T) {
	for _, n := range rooms() {
		d := started(t, api.Config{Bands: n, Depth: 9})
		last := bound(n) - 1
		send(t, d, packet(5, 0))
		for tag, band := range []int{last + 1, last, math.MaxInt, last - 1, 0, -1, math.MinInt} {
			ok(t, d.Send(band, packet(5, tag+1)))
		}
		switch last {
		case 0:
			queued(t, d, 1, 2, 3, 4, 5, 6, 7)
		case 1:
			queued(t, d, 4, 5, 6, 7, 1, 2, 3)
		default:
			queued(t, d, 5, 6, 7, 4, 1, 2, 3)
		}
	}
}

// P17.1: State, of each way from one to the next one
func TestState(t *testing.T) {
	d := New(api.Config{})
	state(t, d, 0)
	ok(t, d.Up())
	state(t, d, 1)
	d.Off()
	state(t, d, 2)
	ok(t, d.Fix())
	state(t, d, 3)
	d.Off()
	state(t, d, 2)
	ok(t, d.Fix())
	d.Back()
	state(t, d, 1)
	ok(t, d.Down())
	state(t, d, 0)
	if n := (*Driver)(nil).State(); n != -1 {
		t.Fatal(n)
	}
}

// P17.2, P17.7: what each call makes of each state
func TestStates(t *testing.T) {
	calls := []struct {
		name    string
		do      func(d *Driver) api.Errno
		becomes [4]int
		answers [4]api.Errno
	}{
		{"Up", (*Driver).Up, [4]int{1, 1, 2, 3}, [4]api.Errno{api.OK, api.ErrArg, api.ErrArg, api.ErrArg}},
		{"Down", (*Driver).Down, [4]int{0, 0, 0, 0}, [4]api.Errno{api.ErrDown, api.OK, api.OK, api.OK}},
		{"Off", func(d *Driver) api.Errno { d.Off(); return api.OK }, [4]int{0, 2, 2, 2}, [4]api.Errno{}},
		{"Fix", (*Driver).Fix, [4]int{0, 1, 3, 3}, [4]api.Errno{api.ErrArg, api.ErrArg, api.OK, api.ErrArg}},
		{"Back", func(d *Driver) api.Errno { d.Back(); return api.OK }, [4]int{0, 1, 2, 1}, [4]api.Errno{}},
	}
	for _, c := range calls {
		for s := range 4 {
			d := to(t, started(t, api.Config{}), s)
			fixed := d.Stats().Fixed
			if e := c.do(d); e != c.answers[s] || d.State() != c.becomes[s] {
				t.Errorf("%s in state %d: %d, state %d; not %d, %d", c.name, s, e, d.State(), c.answers[s], c.becomes[s])
			}
			if c.name == "Fix" && s == 2 {
				fixed++
			}
			stats(t, d, Stats{Fixed: fixed})
		}
	}
}

// busy is a driver in the state, with all of its parts in use: of 4 mailboxes two have ended, one of them by having been sent, and two packets are queued; one frame is in the fifo, and one was lost.
func busy(t *testing.T, want int) *Driver {
	t.Helper()
	d := started(t, api.Config{Boxes: 4, Bands: 2, Depth: 2, Fifo: 1})
	send(t, d, packets(1, 2)...)
	d.Off()
	ok(t, d.Fix())
	d.Back()
	tx(t, d, packet(5, 1), false)
	send(t, d, packets(3, 4, 5, 6, 7)...)
	won(t, d)
	hear(t, d, api.Frame{ID: 8, Len: 3, Data: "abc"})
	if d.Hear(api.Frame{ID: 9}) {
		t.Fatal("heard without room")
	}
	boxes(t, d, 2, 3, 1, 1)
	queued(t, d, 6, 7)
	return to(t, d, want)
}

// P17.2: Up gives a controller as at first: no frame is lost, kept, sent or aborted, no bit is asked; the numbers stay
func TestUpAsAtFirst(t *testing.T) {
	for _, s := range []int{1, 2, 3} {
		d := busy(t, s)
		before := d.Stats()
		ok(t, d.Down())
		ok(t, d.Up())
		state(t, d, 1)
		boxes(t, d, 0, 0, 0, 0)
		queued(t, d)
		asks(t, d, 0)
		if d.Kept() != 0 || d.Lost() != 0 {
			t.Fatal(s, d.Kept(), d.Lost())
		}
		noTx(t, d, api.ErrEmpty)
		noRx(t, d, api.ErrEmpty)
		stats(t, d, before)
		// It works as any other one.
		send(t, d, packets(11, 12, 13, 14, 15)...)
		boxes(t, d, 1, 1, 1, 1)
		queued(t, d, 15)
		hear(t, d, api.Frame{ID: 3})
		rx(t, d, api.Frame{ID: 3})
		for tag := 11; tag <= 15; tag++ {
			won(t, d)
			tx(t, d, packet(5, tag), true)
		}
	}
}

// P17.2: its filters, too, are those of the config, each time
func TestUpFilters(t *testing.T) {
	d := New(api.Config{Fifo: 5, Accept: []api.Filter{{ID: 1, Mask: api.Narrow}, {ID: 2, Mask: api.Narrow}}})
	for range 3 {
		ok(t, d.Up())
		for id := range 4 {
			if d.Hear(api.Frame{ID: id}) != (id == 1 || id == 2) {
				t.Fatal(id)
			}
		}
		ok(t, d.Down())
	}
}

// P17.2: Down lets go of all that is on its way, and of nothing that was counted
func TestDown(t *testing.T) {
	for _, s := range []int{1, 2, 3} {
		d := busy(t, s)
		before := d.Stats()
		ok(t, d.Down())
		state(t, d, 0)
		boxes(t, d, 0, 0, 0, 0)
		queued(t, d)
		if d.Kept() != 0 || d.loaded.Len() != 0 {
			t.Fatal(s, d.Kept(), d.loaded.Len())
		}
		noTx(t, d, api.ErrDown)
		noRx(t, d, api.ErrDown)
		stats(t, d, before)
		refused(t, d.Down(), api.ErrDown)
		// P17.8: it is since the last Up that frames were lost, till the next one.
		if d.Lost() != 1 {
			t.Fatal(s, d.Lost())
		}
		ok(t, d.Up())
		if d.Lost() != 0 {
			t.Fatal(s, d.Lost())
		}
	}
}

// P17.3: what is refused, and that the error named first is told
func TestSendRefused(t *testing.T) {
	for _, band := range []int{math.MinInt, -1, 0, 1, 2, math.MaxInt} {
		for s := range 4 {
			d := busy(t, s)
			for _, f := range keyless() {
				want := api.ErrFrame
				if s == 0 {
					want = api.ErrDown
				}
				refused(t, d.Send(band, api.Packet{Frame: f, From: 1, Tag: 2, Loop: true}), want)
			}
			for _, f := range keyed() {
				want := api.ErrFull
				if s == 0 {
					want = api.ErrDown
				}
				refused(t, d.Send(band, api.Packet{Frame: f}), want)
			}
		}
	}
	var none *Driver
	refused(t, none.Send(0, packet(-1, 0)), api.ErrNil)
}

// P17.3: a frame without a key is refused though there is room, and whatever is free
func TestSendKeyless(t *testing.T) {
	for _, s := range []int{1, 2, 3} {
		d := to(t, started(t, api.Config{Boxes: 2, Depth: 2}), s)
		for _, f := range keyless() {
			refused(t, d.Send(0, api.Packet{Frame: f}), api.ErrFrame)
		}
		boxes(t, d, 0, 0)
		queued(t, d)
	}
}

// P17.3: up, it pushes, as long as a mailbox is free; what stands in a mailbox stands in the echo table at its place
func TestSendPushes(t *testing.T) {
	d := started(t, api.Config{Boxes: 2, Bands: 2, Depth: 3})
	ok(t, d.Send(1, packet(9, 1)))
	boxes(t, d, 1, 0)
	if d.queue.Stopped() {
		t.Fatal("stopped, with a mailbox free")
	}
	ok(t, d.Send(0, packet(8, 2)))
	boxes(t, d, 1, 1)
	queued(t, d)
	if !d.queue.Stopped() {
		t.Fatal("not stopped, with no mailbox free")
	}
	ok(t, d.Send(1, packet(7, 3)))
	ok(t, d.Send(0, packet(6, 4)))
	ok(t, d.Send(1, packet(5, 5)))
	queued(t, d, 4, 3, 5)
	refused(t, d.Send(0, packet(4, 6)), api.ErrFull)
	queued(t, d, 4, 3, 5)
	for box, tag := range []int{1, 2} {
		if p, is := d.loaded.Peek(box); !is || p.Tag != tag {
			t.Fatal(box, p, is)
		}
	}
}

// P17.3: off the bus, and mending, it queues, and does not push, though all mailboxes are free
func TestSendOff(t *testing.T) {
	for _, s := range []int{2, 3} {
		d := to(t, started(t, api.Config{Boxes: 3, Bands: 2, Depth: 3}), s)
		for tag, band := range []int{1, 0, 1} {
			ok(t, d.Send(band, packet(5, tag)))
			boxes(t, d, 0, 0, 0)
		}
		queued(t, d, 1, 0, 2)
		refused(t, d.Send(0, packet(5, 3)), api.ErrFull)
		noTx(t, d, api.ErrEmpty)
		queued(t, d, 1, 0, 2)
		if s == 2 {
			ok(t, d.Fix())
			queued(t, d, 1, 0, 2)
		}
		d.Back()
		boxes(t, d, 1, 1, 1)
		queued(t, d)
		for _, tag := range []int{1, 0, 2} {
			won(t, d)
			tx(t, d, packet(5, tag), true)
		}
	}
}

// P17.3, P17.5: the whole packet comes back, of frames of all kinds
func TestSendWhole(t *testing.T) {
	for _, f := range keyed() {
		for _, p := range []api.Packet{
			{Frame: f},
			{Frame: f, From: -1, Tag: math.MinInt},
			{Frame: f, From: math.MaxInt, Tag: math.MaxInt, Loop: true},
		} {
			d := started(t, api.Config{})
			send(t, d, p, p)
			if l := d.Queued(); len(l) != 1 || l[0] != p {
				t.Fatal(l)
			}
			if got, is := d.Offer(); got != f || !is {
				t.Fatal(got, is)
			}
			won(t, d)
			tx(t, d, p, true)
			stats(t, d, Stats{TxFrames: 1, TxBytes: f.Len})
			d.Off()
			ok(t, d.Fix())
			tx(t, d, p, false)
			stats(t, d, Stats{TxFrames: 1, TxBytes: f.Len, Aborted: 1, Fixed: 1})
		}
	}
}

// P17.4: up, what the controller offers is told; Won ends it
func TestOfferWon(t *testing.T) {
	d := started(t, api.Config{Boxes: 3, Depth: 4})
	if f, is := d.Offer(); f != (api.Frame{}) || is || d.Won() {
		t.Fatal(f, is)
	}
	asks(t, d, 0)
	for tag, id := range []int{7, 3, 7, 0, 1} {
		send(t, d, packet(id, tag))
	}
	for n, id := range []int{3, 7, 7} {
		for range 2 {
			if f, is := d.Offer(); f != (api.Frame{ID: id}) || !is {
				t.Fatal(n, f, is)
			}
		}
		won(t, d)
		asks(t, d, 1)
	}
	// Those that are queued are not offered, though their keys are less.
	if f, is := d.Offer(); f != (api.Frame{}) || is || d.Won() {
		t.Fatal(f, is)
	}
	boxes(t, d, 2, 2, 2)
	queued(t, d, 3, 4)
	for _, p := range []api.Packet{packet(3, 1), packet(7, 0), packet(7, 2)} {
		tx(t, d, p, true)
	}
	if f, is := d.Offer(); f != (api.Frame{}) || !is {
		t.Fatal(f, is)
	}
}

// P17.4: up, what the controller hears is told
func TestHear(t *testing.T) {
	d := started(t, api.Config{Fifo: 2, Accept: []api.Filter{{ID: 4, Mask: 4}}})
	for _, f := range append(keyless(), api.Frame{ID: 3}) {
		if d.Hear(f) || d.Kept() != 0 || d.Lost() != 0 {
			t.Fatal(f)
		}
	}
	asks(t, d, 0)
	hear(t, d, api.Frame{ID: 4}, api.Frame{ID: 5, Len: 1, Data: "a"})
	asks(t, d, 2)
	for n := 1; n <= 3; n++ {
		if d.Hear(api.Frame{ID: 6}) || d.Kept() != 2 || d.Lost() != n {
			t.Fatal(n, d.Kept(), d.Lost())
		}
		asks(t, d, 6)
	}
	stats(t, d, Stats{})
	rx(t, d, api.Frame{ID: 4})
	rx(t, d, api.Frame{ID: 5, Len: 1, Data: "a"})
}

// P17.4: a driver that is not up neither offers, wins nor hears, whatever is ready, and whatever room there is
func TestNotUp(t *testing.T) {
	for _, s := range []int{0, 2, 3} {
		d := started(t, api.Config{Boxes: 3, Depth: 1, Fifo: 2})
		send(t, d, packets(1, 2, 3, 4)...)
		won(t, d)
		hear(t, d, api.Frame{ID: 7})
		to(t, d, s)
		states, register, kept := d.Boxes(), d.control.Asks(), d.Kept()
		if f, is := d.Offer(); f != (api.Frame{}) || is || d.Won() {
			t.Fatal(s, f, is)
		}
		for _, f := range append(keyed(), keyless()...) {
			if d.Hear(f) {
				t.Fatal(s, f)
			}
		}
		boxes(t, d, states...)
		asks(t, d, register)
		if d.Kept() != kept || d.Lost() != 0 {
			t.Fatal(s, d.Kept(), d.Lost())
		}
	}
}

// P17.5: those that ended first come first; each frees its mailbox, into which the next one of the queue is pushed at once
func TestTx(t *testing.T) {
	d := started(t, api.Config{Boxes: 3, Bands: 2, Depth: 4})
	for tag, id := range []int{5, 4, 3} {
		send(t, d, packet(id, tag))
	}
	for tag, band := range []int{1, 0, 1, 0} {
		ok(t, d.Send(band, packet(9, tag+3)))
	}
	queued(t, d, 4, 6, 3, 5)
	noTx(t, d, api.ErrEmpty)
	won(t, d)
	won(t, d)
	boxes(t, d, 1, 2, 2)
	// What has ended is not free, as long as it is not told.
	queued(t, d, 4, 6, 3, 5)
	tx(t, d, packet(3, 2), true)
	boxes(t, d, 1, 2, 1)
	queued(t, d, 6, 3, 5)
	tx(t, d, packet(4, 1), true)
	boxes(t, d, 1, 1, 1)
	queued(t, d, 3, 5)
	noTx(t, d, api.ErrEmpty)
	for _, p := range []api.Packet{packet(5, 0), packet(9, 4), packet(9, 6), packet(9, 3), packet(9, 5)} {
		won(t, d)
		tx(t, d, p, true)
	}
	boxes(t, d, 0, 0, 0)
	noTx(t, d, api.ErrEmpty)
	stats(t, d, Stats{TxFrames: 7})
}

// P17.5: bit 1 is cleared just if no more has ended, and no other bit is
func TestTxBit(t *testing.T) {
	d := started(t, api.Config{Boxes: 3, Depth: 3})
	send(t, d, packets(1, 2, 3, 4, 5)...)
	hear(t, d, api.Frame{})
	d.Hear(api.Frame{})
	asks(t, d, 6)
	won(t, d)
	asks(t, d, 7)
	tx(t, d, packet(5, 1), true)
	asks(t, d, 6)
	noTx(t, d, api.ErrEmpty)
	for range 3 {
		won(t, d)
	}
	for n := range 3 {
		asks(t, d, 7)
		tx(t, d, packet(5, n+2), true)
	}
	asks(t, d, 6)
	d.Off()
	asks(t, d, 14)
	ok(t, d.Fix())
	asks(t, d, 15)
	tx(t, d, packet(5, 5), false)
	asks(t, d, 14)
}

// P17.5: of aborted ones, too, bit 1 stays till the last one is told; off the bus, and mending, Tx tells, and pushes nothing
func TestTxOff(t *testing.T) {
	for _, s := range []int{2, 3} {
		d := started(t, api.Config{Boxes: 4, Depth: 2})
		send(t, d, packets(1, 2, 3, 4, 5, 6)...)
		won(t, d)
		won(t, d)
		to(t, d, s)
		tx(t, d, packet(5, 1), true)
		tx(t, d, packet(5, 2), true)
		if s == 2 {
			boxes(t, d, 0, 0, 1, 1)
			asks(t, d, 8)
			noTx(t, d, api.ErrEmpty)
			ok(t, d.Fix())
		}
		boxes(t, d, 0, 0, 3, 3)
		asks(t, d, 9)
		tx(t, d, packet(5, 3), false)
		asks(t, d, 9)
		tx(t, d, packet(5, 4), false)
		asks(t, d, 8)
		boxes(t, d, 0, 0, 0, 0)
		queued(t, d, 5, 6)
		noTx(t, d, api.ErrEmpty)
		stats(t, d, Stats{TxFrames: 2, Aborted: 2, Fixed: 1})
		d.Back()
		boxes(t, d, 1, 1, 0, 0)
		queued(t, d)
	}
}

// P17.5: TxBytes are by Len, of those that ask for data, too; what was aborted has none
func TestTxStats(t *testing.T) {
	d := started(t, api.Config{})
	want := Stats{}
	for n, f := range keyed() {
		send(t, d, api.Packet{Frame: f, Tag: n})
		stats(t, d, want)
		won(t, d)
		stats(t, d, want)
		tx(t, d, api.Packet{Frame: f, Tag: n}, true)
		want.TxFrames++
		want.TxBytes += f.Len
		stats(t, d, want)
		send(t, d, api.Packet{Frame: f, Tag: n})
		d.Off()
		ok(t, d.Fix())
		want.Fixed++
		stats(t, d, want)
		tx(t, d, api.Packet{Frame: f, Tag: n}, false)
		want.Aborted++
		stats(t, d, want)
		d.Back()
	}
	if want.TxBytes != 102 {
		t.Fatal(want)
	}
}

// P17.6: what was heard is told in that order, each once, and counted
func TestRx(t *testing.T) {
	d := started(t, api.Config{Fifo: 20})
	noRx(t, d, api.ErrEmpty)
	hear(t, d, keyed()...)
	stats(t, d, Stats{})
	want := Stats{}
	for n, f := range keyed() {
		if d.Kept() != len(keyed())-n {
			t.Fatal(n, d.Kept())
		}
		rx(t, d, f)
		want.RxFrames++
		want.RxBytes += f.Len
		stats(t, d, want)
	}
	noRx(t, d, api.ErrEmpty)
	stats(t, d, want)
	if want.RxBytes != 102 || d.Lost() != 0 {
		t.Fatal(want, d.Lost())
	}
}

// P17.6: the bits 2 and 4 are cleared just if the fifo is empty then, and no other bit is
func TestRxBits(t *testing.T) {
	d := started(t, api.Config{Fifo: 2, Boxes: 2})
	send(t, d, packets(1, 2)...)
	won(t, d)
	hear(t, d, api.Frame{ID: 1})
	asks(t, d, 3)
	rx(t, d, api.Frame{ID: 1})
	asks(t, d, 1)
	for range 2 {
		hear(t, d, api.Frame{ID: 2}, api.Frame{ID: 3})
		d.Hear(api.Frame{ID: 4})
		asks(t, d, 7)
		rx(t, d, api.Frame{ID: 2})
		asks(t, d, 7)
		rx(t, d, api.Frame{ID: 3})
		asks(t, d, 1)
		noRx(t, d, api.ErrEmpty)
		asks(t, d, 1)
	}
	// P17.8: that its bit was cleared makes none less lost.
	if d.Lost() != 2 {
		t.Fatal(d.Lost())
	}
	hear(t, d, api.Frame{ID: 5})
	d.Off()
	asks(t, d, 11)
	rx(t, d, api.Frame{ID: 5})
	asks(t, d, 9)
}

// P17.6: off the bus, and mending, what was heard ahead is told
func TestRxOff(t *testing.T) {
	for _, s := range []int{2, 3} {
		d := started(t, api.Config{Fifo: 2})
		hear(t, d, api.Frame{ID: 1, Len: 1, Data: "a"}, api.Frame{ID: 2, Len: 2, Data: "ab"})
		to(t, d, s)
		rx(t, d, api.Frame{ID: 1, Len: 1, Data: "a"})
		rx(t, d, api.Frame{ID: 2, Len: 2, Data: "ab"})
		noRx(t, d, api.ErrEmpty)
		if got := d.Stats(); got.RxFrames != 2 || got.RxBytes != 3 {
			t.Fatal(got)
		}
		state(t, d, s)
	}
}

// P17.7: Off stops the queue, tells the controller, and leaves all else as it is
func TestOff(t *testing.T) {
	d := started(t, api.Config{Boxes: 3, Depth: 2, Fifo: 1})
	send(t, d, packets(1, 2)...)
	won(t, d)
	hear(t, d, api.Frame{ID: 1})
	for n := range 2 {
		d.Off()
		state(t, d, 2)
		asks(t, d, 11)
		boxes(t, d, 2, 1, 0)
		if !d.queue.Stopped() || d.Kept() != 1 {
			t.Fatal(n, d.Kept())
		}
		stats(t, d, Stats{})
	}
	send(t, d, packet(5, 3))
	boxes(t, d, 2, 1, 0)
	queued(t, d, 3)
	// Of a driver that is down it does nothing.
	ok(t, d.Down())
	d.Off()
	state(t, d, 0)
	ok(t, d.Up())
	asks(t, d, 0)
	send(t, d, packet(5, 4))
	boxes(t, d, 1, 0, 0)
}

// P17.7: Off while it mends: it is to be fixed again
func TestOffMending(t *testing.T) {
	d := to(t, started(t, api.Config{Boxes: 1, Depth: 2}), 3)
	send(t, d, packets(1, 2)...)
	d.Off()
	state(t, d, 2)
	d.Back()
	state(t, d, 2)
	boxes(t, d, 0)
	asks(t, d, 8)
	ok(t, d.Fix())
	stats(t, d, Stats{Fixed: 2})
	d.Back()
	state(t, d, 1)
	asks(t, d, 0)
	boxes(t, d, 1)
	queued(t, d, 2)
}

// P17.7: Fix aborts what is ready, by mailboxes, whatever the keys, behind what has ended; nothing else
func TestFix(t *testing.T) {
	d := started(t, api.Config{Boxes: 5, Depth: 3})
	for tag, id := range []int{5, 0, 4, 1, 3, 2, 6} {
		send(t, d, packet(id, tag))
	}
	won(t, d)
	d.Off()
	boxes(t, d, 1, 2, 1, 1, 1)
	ok(t, d.Fix())
	state(t, d, 3)
	boxes(t, d, 3, 2, 3, 3, 3)
	queued(t, d, 5, 6)
	stats(t, d, Stats{Fixed: 1})
	refused(t, d.Fix(), api.ErrArg)
	stats(t, d, Stats{Fixed: 1})
	tx(t, d, packet(0, 1), true)
	for _, p := range []api.Packet{packet(5, 0), packet(4, 2), packet(1, 3), packet(3, 4)} {
		tx(t, d, p, false)
	}
	noTx(t, d, api.ErrEmpty)
	stats(t, d, Stats{TxFrames: 1, Aborted: 4, Fixed: 1})
}

// P17.7: Fix, though nothing is ready
func TestFixIdle(t *testing.T) {
	d := to(t, started(t, api.Config{}), 2)
	for n := 1; n <= 3; n++ {
		ok(t, d.Fix())
		stats(t, d, Stats{Fixed: n})
		asks(t, d, 8)
		noTx(t, d, api.ErrEmpty)
		d.Off()
	}
	d = to(t, started(t, api.Config{}), 1)
	refused(t, d.Fix(), api.ErrArg)
	ok(t, d.Down())
	refused(t, d.Fix(), api.ErrArg)
	stats(t, d, Stats{})
}

// P17.7: Back pushes into those mailboxes that are free; those that were aborted are not, as long as they are not told
func TestBack(t *testing.T) {
	d := started(t, api.Config{Boxes: 3, Depth: 5})
	send(t, d, packets(1, 2)...)
	d.Off()
	send(t, d, packets(3, 4, 5)...)
	d.Back()
	state(t, d, 2)
	ok(t, d.Fix())
	queued(t, d, 3, 4, 5)
	asks(t, d, 9)
	d.Back()
	state(t, d, 1)
	asks(t, d, 1)
	boxes(t, d, 3, 3, 1)
	queued(t, d, 4, 5)
	if f, is := d.Offer(); f != (api.Frame{ID: 5}) || !is {
		t.Fatal(f, is)
	}
	tx(t, d, packet(5, 1), false)
	boxes(t, d, 1, 3, 1)
	tx(t, d, packet(5, 2), false)
	boxes(t, d, 1, 1, 1)
	queued(t, d)
	d.Back()
	boxes(t, d, 1, 1, 1)
	for _, tag := range []int{3, 4, 5} {
		won(t, d)
		tx(t, d, packet(5, tag), true)
	}
	stats(t, d, Stats{TxFrames: 3, Aborted: 2, Fixed: 1})
}

// P17.7: Back clears the bit 8, and no other one
func TestBackBits(t *testing.T) {
	d := started(t, api.Config{Boxes: 2, Fifo: 1})
	send(t, d, packets(1, 2)...)
	hear(t, d, api.Frame{})
	d.Hear(api.Frame{})
	d.Off()
	ok(t, d.Fix())
	asks(t, d, 15)
	d.Back()
	asks(t, d, 7)
}

// P17.8: what is told, at each state
func TestTold(t *testing.T) {
	for s := range 4 {
		d := busy(t, s)
		for range 2 {
			state(t, d, s)
			switch s {
			case 0:
				boxes(t, d, 0, 0, 0, 0)
				queued(t, d)
			case 1, 2:
				boxes(t, d, 2, 3, 1, 1)
				queued(t, d, 6, 7)
			case 3:
				boxes(t, d, 2, 3, 3, 3)
				queued(t, d, 6, 7)
			}
			want := Stats{Aborted: 1, Fixed: 1}
			if s == 3 {
				want.Fixed++
			}
			stats(t, d, want)
			if d.Kept() != min(s, 1) || d.Lost() != 1 {
				t.Fatal(s, d.Kept(), d.Lost())
			}
		}
	}
}

// P17.2 to P17.8: nil
func TestNil(t *testing.T) {
	var d *Driver
	for n, e := range []api.Errno{d.Up(), d.Down(), d.Send(0, packet(5, 1)), d.Send(-1, packet(-1, 1)), d.Fix()} {
		if e != api.ErrNil {
			t.Error(n, e)
		}
	}
	d.Off()
	d.Back()
	noTx(t, d, api.ErrNil)
	noRx(t, d, api.ErrNil)
	if f, is := d.Offer(); f != (api.Frame{}) || is || d.Won() || d.Hear(api.Frame{}) {
		t.Error(f, is)
	}
	state(t, d, -1)
	stats(t, d, Stats{})
	if len(d.Queued()) != 0 || len(d.Boxes()) != 0 || d.Kept() != 0 || d.Lost() != 0 {
		t.Error(d.Queued(), d.Boxes(), d.Kept(), d.Lost())
	}
}

// P1: a driver that New did not make is down, its queue has no room, and no call of it panics
func TestZeroDriver(t *testing.T) {
	var d Driver
	state(t, &d, 0)
	boxes(t, &d)
	for range 2 {
		refused(t, d.Send(0, packet(5, 1)), api.ErrDown)
		refused(t, d.Down(), api.ErrDown)
		noTx(t, &d, api.ErrDown)
		noRx(t, &d, api.ErrDown)
		d.Off()
		d.Back()
		ok(t, d.Up())
		refused(t, d.Send(0, packet(-1, 1)), api.ErrFrame)
		refused(t, d.Send(0, packet(5, 1)), api.ErrFull)
		hear(t, &d, api.Frame{ID: 1})
		if f, is := d.Offer(); f != (api.Frame{}) || is || d.Won() || d.Hear(api.Frame{}) || d.Lost() != 1 {
			t.Fatal(f, is, d.Lost())
		}
		noTx(t, &d, api.ErrEmpty)
		rx(t, &d, api.Frame{ID: 1})
		d.Off()
		ok(t, d.Fix())
		d.Back()
		queued(t, &d)
		ok(t, d.Down())
	}
}

// A driver has the chapter's calls alone: none of its parts' own calls gets by its state.
func TestCalls(t *testing.T) {
	var names []string
	typ := reflect.TypeOf(&Driver{})
	for n := range typ.NumMethod() {
		names = append(names, typ.Method(n).Name)
	}
	want := []string{"Back", "Boxes", "Down", "Fix", "Hear", "Kept", "Lost", "Off", "Offer", "Queued", "Rx", "Send", "State", "Stats", "Tx", "Up", "Won"}
	if !slices.Equal(names, want) {
		t.Errorf("%v, not %v", names, want)
	}
	for n := range typ.Elem().NumField() {
		if f := typ.Elem().Field(n); f.IsExported() {
			t.Error(f.Name)
		}
	}
}

// step is a call of both the driver and the model, and fails if they answer unlike things.
func step(t *testing.T, what, band int, p api.Packet, d *Driver, m *model) {
	t.Helper()
	var got, want api.Errno
	switch what {
	case 0:
		got, want = d.Send(band, p), m.send(band, p)
	case 1:
		if a, b := d.Won(), m.won(); a != b {
			t.Fatalf("Won %v, not %v", a, b)
		}
	case 2:
		x, e := d.Tx()
		wantX, wantE := m.tx()
		if x != wantX {
			t.Fatalf("Tx %+v, not %+v", x, wantX)
		}
		got, want = e, wantE
	case 3:
		if a, b := d.Hear(p.Frame), m.hear(p.Frame); a != b {
			t.Fatalf("Hear %+v: %v, not %v", p.Frame, a, b)
		}
	case 4:
		f, e := d.Rx()
		wantF, wantE := m.rx()
		if f != wantF {
			t.Fatalf("Rx %+v, not %+v", f, wantF)
		}
		got, want = e, wantE
	case 5:
		d.Off()
		m.off()
	case 6:
		got, want = d.Fix(), m.fix()
	case 7:
		d.Back()
		m.back()
	case 8:
		got, want = d.Up(), m.up()
	case 9:
		got, want = d.Down(), m.down()
	}
	if got != want {
		t.Fatalf("call %d: %d, not %d", what, got, want)
	}
	same(t, d, m)
}

// someFrame is one that may often not be, if wrong.
func someFrame(random *rand.Rand, wrong bool) api.Frame {
	if wrong && random.Intn(4) == 0 {
		return keyless()[random.Intn(len(keyless()))]
	}
	if random.Intn(3) == 0 {
		return keyed()[random.Intn(len(keyed()))]
	}
	return api.Frame{ID: random.Intn(8), Len: 1, Data: "a"}
}

// someConfig is one of a small driver.
func someConfig(random *rand.Rand) api.Config {
	c := api.Config{Boxes: random.Intn(5), Fifo: random.Intn(4), Bands: random.Intn(4), Depth: random.Intn(7)}
	if random.Intn(3) == 0 {
		c.Accept = []api.Filter{{ID: 4, Mask: 4, Inv: random.Intn(2) == 0}, {ID: 1, Mask: api.Narrow}}
	}
	return c
}

// someCall is the number of a call: those that change the state come less often.
func someCall(random *rand.Rand) int {
	if random.Intn(10) == 0 {
		return 5 + random.Intn(5)
	}
	return random.Intn(5)
}

// P17.1 to P17.8: long ways of drivers, by chance
func TestLongWays(t *testing.T) {
	random := rand.New(rand.NewSource(1))
	for range 400 {
		c := someConfig(random)
		d, m := New(c), newModel(c)
		same(t, d, m)
		for tag := range 300 {
			p := api.Packet{Frame: someFrame(random, true), From: random.Intn(3) - 1, Tag: tag, Loop: random.Intn(2) == 0}
			step(t, someCall(random), random.Intn(6)-1, p, d, m)
		}
	}
}

// P17.1 to P17.8: all short ways of small drivers
func TestShortWays(t *testing.T) {
	for _, boxes := range []int{1, 2} {
		for way := range 100000 {
			c := api.Config{Boxes: boxes, Bands: 2, Depth: 2}
			d, m := started(t, c), newModel(c)
			m.up()
			// Two are sent ahead, so that there is something to go on.
			step(t, 0, 1, packet(2, 100), d, m)
			step(t, 0, 0, packet(1, 101), d, m)
			for n := range 5 {
				step(t, way%10, n%2, packet(n%3, n), d, m)
				way /= 10
			}
		}
	}
}

// P17.9: as long as it is not down, each packet that Send took is queued, in a mailbox, or was told by Tx, once; P17.10: while it is up, no mailbox is free, as long as something is queued
func TestEachOnce(t *testing.T) {
	random := rand.New(rand.NewSource(2))
	told, aborted := 0, 0
	for range 300 {
		d := started(t, someConfig(random))
		taken, seen := 0, map[int]bool{}
		out := func(tag int) {
			if seen[tag] || tag >= taken {
				t.Fatalf("%d of %d comes once more", tag, taken)
			}
			seen[tag] = true
		}
		for range 300 {
			switch what := someCall(random); what {
			case 0:
				if d.Send(random.Intn(4), api.Packet{Frame: someFrame(random, true), Tag: taken}) == api.OK {
					taken++
				}
			case 1:
				d.Won()
			case 2:
				if x, e := d.Tx(); e == api.OK {
					out(x.Packet.Tag)
					told++
					if !x.Sent {
						aborted++
					}
				}
			case 5:
				d.Off()
			case 6:
				d.Fix()
			case 7:
				d.Back()
			}
			inBoxes := 0
			for at, state := range d.Boxes() {
				_, is := d.loaded.Peek(at)
				if is != (state != 0) {
					t.Fatalf("mailbox %d has state %d, but the echo table says %v", at, state, is)
				}
				if is {
					inBoxes++
				}
			}
			if got := len(seen) + inBoxes + len(d.Queued()); got != taken {
				t.Fatalf("%d were taken, %d are told or there", taken, got)
			}
			if d.State() == 1 && len(d.Queued()) > 0 && slices.Contains(d.Boxes(), 0) {
				t.Fatal("a mailbox is free", d.Queued(), d.Boxes())
			}
		}
		// All that is left comes out, each once.
		d.Fix()
		d.Back()
		state(t, d, 1)
		for len(seen) < taken {
			d.Won()
			if x, e := d.Tx(); e == api.OK {
				out(x.Packet.Tag)
			} else {
				t.Fatal(e, len(seen), taken)
			}
		}
		noTx(t, d, api.ErrEmpty)
	}
	if told < 2000 || aborted < 300 {
		t.Fatal(told, aborted)
	}
}

// Rule 3: what is handed in is neither changed nor kept, what is handed out is the caller's own, and two drivers share nothing
func TestOwn(t *testing.T) {
	l := []api.Filter{{ID: 1, Mask: api.Narrow}, {ID: 2, Mask: api.Narrow}}
	c := api.Config{Boxes: 2, Depth: 3, Fifo: 3, Accept: l[:1]}
	d, other := New(c), New(c)
	l[0].ID = 3
	for range 2 {
		ok(t, d.Up())
		if d.Hear(api.Frame{ID: 3}) || d.Hear(api.Frame{ID: 2}) || !d.Hear(api.Frame{ID: 1}) {
			t.Fatal("a filter was kept that is the caller's")
		}
		ok(t, d.Down())
	}
	if l[0] != (api.Filter{ID: 3, Mask: api.Narrow}) || l[1] != (api.Filter{ID: 2, Mask: api.Narrow}) {
		t.Fatal(l)
	}
	ok(t, d.Up())
	send(t, d, packets(1, 2, 3, 4)...)
	p, s := d.Queued(), d.Boxes()
	p[0].Tag, s[0] = 9, 9
	_ = append(p[:1], packet(5, 8))
	queued(t, d, 3, 4)
	boxes(t, d, 1, 1)
	p = d.Queued()
	won(t, d)
	tx(t, d, packet(5, 1), true)
	send(t, d, packet(5, 5))
	if !slices.Equal(p, packets(3, 4)) {
		t.Fatal(p)
	}
	state(t, other, 0)
	boxes(t, other, 0, 0)
	queued(t, other)
	ok(t, other.Up())
	noTx(t, other, api.ErrEmpty)
	stats(t, other, Stats{})
}

// What went through is not kept.
func TestNothingKept(t *testing.T) {
	d := started(t, api.Config{Boxes: 2, Depth: 2, Fifo: 1})
	for n := range 1000 {
		send(t, d, packet(5, n))
		won(t, d)
		tx(t, d, packet(5, n), true)
		hear(t, d, api.Frame{ID: 1})
		rx(t, d, api.Frame{ID: 1})
		if d.loaded.Len() != 0 || d.queue.Len() != 0 || d.Kept() != 0 {
			t.Fatal(n)
		}
		if n%10 == 0 {
			ok(t, d.Down())
			ok(t, d.Up())
		}
	}
	stats(t, d, Stats{TxFrames: 1000, RxFrames: 1000})
}

// P1: many calls end soon, though all is as great as may be
func TestGreat(t *testing.T) {
	begun := time.Now()
	most := api.MaxRoom
	d := started(t, api.Config{Boxes: most, Fifo: most, Bands: most, Depth: most})
	for n := range 2 * most {
		ok(t, d.Send(n%most, packet(n*7%2048, n)))
	}
	refused(t, d.Send(0, packet(0, 0)), api.ErrFull)
	for n := range 20000 {
		won(t, d)
		x, e := d.Tx()
		if e != api.OK || !x.Sent || d.Send(n%most, x.Packet) != api.OK {
			t.Fatal(n, x, e)
		}
		hear(t, d, x.Packet.Frame)
		if f, e := d.Rx(); f != x.Packet.Frame || e != api.OK {
			t.Fatal(n, f, e)
		}
	}
	for n := 1; n <= 20; n++ {
		d.Off()
		ok(t, d.Fix())
		d.Back()
		if n%2 == 0 {
			ok(t, d.Down())
			ok(t, d.Up())
		}
	}
	if n := time.Since(begun); n > 20*time.Second {
		t.Error(n)
	}
}

// P2: calls that are refused, and those that ask, change nothing that a later one could tell.
func TestRefusedCallsChangeNothing(t *testing.T) {
	random := rand.New(rand.NewSource(3))
	for range 60 {
		c := someConfig(random)
		d, m := New(c), newModel(c)
		for tag := range 150 {
			band := random.Intn(6) - 1
			for _, f := range keyless() {
				if e := d.Send(band, api.Packet{Frame: f}); e == api.OK || d.Hear(f) {
					t.Fatal(f, e)
				}
			}
			if len(m.queued()) == m.depth || m.state == 0 {
				for band := -1; band < 5; band++ {
					if e := d.Send(band, packet(5, -1)); e == api.OK {
						t.Fatal(band)
					}
				}
			}
			if len(m.ended) == 0 || m.state == 0 {
				d.Tx()
			}
			if len(m.fifo) == 0 || m.state == 0 {
				d.Rx()
			}
			switch m.state {
			case 0:
				d.Down()
				d.Off()
				d.Fix()
				d.Back()
				d.Won()
				d.Hear(api.Frame{})
			case 1:
				d.Up()
				d.Fix()
				d.Back()
			case 2:
				d.Up()
				d.Off()
				d.Back()
				d.Won()
				d.Hear(api.Frame{})
			case 3:
				d.Up()
				d.Fix()
				d.Won()
				d.Hear(api.Frame{})
			}
			same(t, d, m)
			step(t, someCall(random), band, api.Packet{Frame: someFrame(random, false), Tag: tag}, d, m)
		}
	}
}

// The chapter's example.
func TestExample(t *testing.T) {
	d := New(api.Config{Boxes: 1, Depth: 1})
	ok(t, d.Up())
	a, b := packet(1, 'a'), packet(2, 'b')
	send(t, d, a, b)
	boxes(t, d, 1)
	queued(t, d, 'b')
	won(t, d)
	tx(t, d, a, true)
	boxes(t, d, 1)
	queued(t, d)
	if f, is := d.Offer(); f != b.Frame || !is {
		t.Fatal(f, is)
	}
}

// P1: all calls end, at all arguments, and hold together.
func FuzzCallsEnd(f *testing.F) {
	f.Add(2, 1, 2, 3, "80001204303402056723", 0, 5, 0, 0, "", 0, 0)
	f.Add(0, -1, 0, 1, "8PPP12PP567222934", -1, 1, 1, 8, "12345678", -1, 5)
	f.Add(math.MaxInt, math.MaxInt, math.MaxInt, math.MaxInt, "8PSS4422", math.MaxInt, math.MaxInt, 63, -1, "a", math.MaxInt, math.MaxInt)
	f.Add(math.MinInt, math.MinInt, math.MinInt, math.MinInt, "98998", math.MinInt, -1, -1, math.MinInt, "", math.MinInt, math.MinInt)
	f.Fuzz(func(t *testing.T, boxes, fifo, bands, depth int, way string, band, id, flags, n int, data string, from, tag int) {
		c := api.Config{Boxes: boxes, Fifo: fifo, Bands: bands, Depth: depth}
		d, m := New(c), newModel(c)
		for i, what := range []byte(way) {
			if i == 100 {
				break
			}
			p := packet(int(what)%7, i)
			if what&64 != 0 {
				p = api.Packet{Frame: api.Frame{ID: id, Flags: flags, Len: n, Data: data}, From: from, Tag: tag, Loop: i&1 == 0}
			}
			step(t, int(what&15), band, p, d, m)
			band = int(what>>4) - i
		}
		same(t, d, m)
	})
}
