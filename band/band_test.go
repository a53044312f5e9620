package band

import (
	"math"
	"math/rand"
	"slices"
	"testing"
	"time"

	"signalbox/api"
)

// packet is one with this number.
func packet(tag int) api.Packet {
	return api.Packet{Frame: api.Frame{ID: tag & 7}, Tag: tag}
}

// odd are packets of which most have frames that may not be: the queue takes them all.
func odd() []api.Packet {
	return []api.Packet{
		{},
		{Loop: true},
		{From: -1},
		{From: math.MaxInt, Tag: math.MinInt, Loop: true},
		{Frame: api.Frame{ID: -1}},
		{Frame: api.Frame{ID: math.MaxInt, Flags: math.MinInt, Len: -1, Data: "abc"}},
		{Frame: api.Frame{Flags: api.Err, Len: 8, Data: "12345678"}, Tag: 7},
		{Frame: api.Frame{ID: 5, Len: 2, Data: "ab"}, From: 3, Tag: 9, Loop: true},
	}
}

// bounds are numbers of bands, and rooms, of all kinds.
func bounds() []int {
	return []int{math.MinInt, -1 << 32, -1000, -2, -1, 0, 1, 2, 3, 10, 999, 1000, 1001, 2000, 1 << 32, 1<<32 + 5, math.MaxInt}
}

// member is what a model knows of a packet.
type member struct {
	band   int
	packet api.Packet
}

// model is a queue told otherwise than by the program: one row of all, in the order in which they were put.
type model struct {
	bands, room int
	row         []member
	stopped     bool
}

func newModel(bands, room int) *model {
	m := &model{bands: bands, room: room}
	for _, n := range []*int{&m.bands, &m.room} {
		if *n < 1 {
			*n = 1
		}
		if *n > 1000 {
			*n = 1000
		}
	}
	return m
}

func (m *model) put(band int, p api.Packet) api.Errno {
	if len(m.row) == m.room {
		return api.ErrFull
	}
	if band < 0 {
		band = 0
	}
	if band > m.bands-1 {
		band = m.bands - 1
	}
	m.row = append(m.row, member{band, p})
	return api.OK
}

func (m *model) take() (api.Packet, api.Errno) {
	if m.stopped || len(m.row) == 0 {
		return api.Packet{}, api.ErrEmpty
	}
	least := 0
	for n := range m.row {
		if m.row[n].band < m.row[least].band {
			least = n
		}
	}
	p := m.row[least].packet
	m.row = slices.Delete(m.row, least, least+1)
	return p, api.OK
}

// all are the packets by their bands.
func (m *model) all() []api.Packet {
	l := slices.Clone(m.row)
	slices.SortStableFunc(l, func(a, b member) int { return a.band - b.band })
	var all []api.Packet
	for _, x := range l {
		all = append(all, x.packet)
	}
	return all
}

func (m *model) flush() int {
	n := len(m.row)
	m.row = nil
	return n
}

// same fails if the queue and the model tell unlike things.
func same(t *testing.T, q *Queue, m *model) {
	t.Helper()
	if q.Len() != len(m.row) || q.Stopped() != m.stopped {
		t.Fatalf("Len %d, Stopped %v; not %d, %v", q.Len(), q.Stopped(), len(m.row), m.stopped)
	}
	if got, want := q.All(), m.all(); !slices.Equal(got, want) {
		t.Fatalf("All %v, not %v", got, want)
	}
}

// put fails if the packet is not taken.
func put(t *testing.T, q *Queue, band int, p api.Packet) {
	t.Helper()
	if e := q.Put(band, p); e != api.OK {
		t.Fatalf("Put(%d, %+v): %d", band, p, e)
	}
}

// full fails if a packet is put, or is refused otherwise.
func full(t *testing.T, q *Queue) {
	t.Helper()
	n := q.Len()
	for _, band := range bounds() {
		if e := q.Put(band, packet(9)); e != api.ErrFull || q.Len() != n {
			t.Fatalf("Put(%d): %d, Len %d, not %d", band, e, q.Len(), n)
		}
	}
}

// take fails if another one is taken, or none.
func take(t *testing.T, q *Queue, want api.Packet) {
	t.Helper()
	if p, e := q.Take(); p != want || e != api.OK {
		t.Fatalf("Take %+v, %d; not %+v", p, e, want)
	}
}

// empty fails if one is taken.
func empty(t *testing.T, q *Queue) {
	t.Helper()
	if p, e := q.Take(); p != (api.Packet{}) || e != api.ErrEmpty {
		t.Fatalf("Take %+v, %d", p, e)
	}
}

// all fails if there are others, or in another order.
func all(t *testing.T, q *Queue, tags ...int) {
	t.Helper()
	var got []int
	for _, p := range q.All() {
		got = append(got, p.Tag)
	}
	if !slices.Equal(got, tags) || q.Len() != len(tags) {
		t.Fatalf("All %v, Len %d; not %v", got, q.Len(), tags)
	}
}

// P15.1: New is empty, not stopped, and has room for so many, whatever the number of bands, and whichever they are put in
func TestNewRoom(t *testing.T) {
	for _, room := range bounds() {
		for _, bands := range []int{math.MinInt, 0, 1, 3, 1000, math.MaxInt} {
			q, want := New(bands, room), min(max(room, 1), 1000)
			if q == nil || q.Len() != 0 || len(q.All()) != 0 || q.Stopped() {
				t.Fatalf("New(%d, %d): %v", bands, room, q)
			}
			empty(t, q)
			if n := q.Flush(); n != 0 {
				t.Fatal(bands, room, n)
			}
			for n := range want {
				put(t, q, n%5-1, packet(n))
				if q.Len() != n+1 {
					t.Fatal(bands, room, q.Len())
				}
			}
			full(t, q)
		}
	}
}

// P15.1: so many bands, from 0 on: of what is put in two of them the one in the lesser one comes first, and those that are beyond an end are as those at it
func TestNewBands(t *testing.T) {
	for _, bands := range bounds() {
		last := min(max(bands, 1), 1000) - 1
		for _, at := range []int{0, 1, 2, 500, last - 1, last, last + 1} {
			q := New(bands, 2)
			put(t, q, at+1, packet(1))
			put(t, q, at, packet(2))
			// If both are the same band, that which was put first is first.
			if at >= 0 && at+1 <= last {
				all(t, q, 2, 1)
			} else {
				all(t, q, 1, 2)
			}
		}
	}
}

// P15.2: a band below 0 is 0, one beyond the last one is the last one
func TestPutBand(t *testing.T) {
	for _, low := range []int{math.MinInt, -1 << 32, -3, -2, -1, 0} {
		for _, high := range []int{2, 3, 4, 1000, 1 << 32, math.MaxInt} {
			q := New(3, 9)
			for n, band := range []int{high, 1, low, 2, 0, 1, low, high, 0} {
				put(t, q, band, packet(n))
			}
			full(t, q)
			all(t, q, 2, 4, 6, 8, 1, 5, 0, 3, 7)
			for _, n := range []int{2, 4, 6, 8, 1, 5, 0, 3, 7} {
				take(t, q, packet(n))
			}
			empty(t, q)
		}
	}
	// Of one band alone all is first come first served.
	q := New(1, 5)
	for n, band := range []int{3, math.MinInt, 0, math.MaxInt, -1} {
		put(t, q, band, packet(n))
	}
	all(t, q, 0, 1, 2, 3, 4)
}

// P15.2: the room is that of all bands together; what was taken, or flushed, makes room again
func TestPutFull(t *testing.T) {
	for room := 1; room <= 9; room++ {
		for _, bands := range []int{1, 2, 5, 1000} {
			q := New(bands, room)
			for n := range room {
				put(t, q, n, packet(n))
			}
			for range 3 {
				full(t, q)
				for n := range room {
					if _, e := q.Take(); e != api.OK {
						t.Fatal(e)
					}
					put(t, q, n*7, packet(n))
					full(t, q)
				}
				if n := q.Flush(); n != room {
					t.Fatal(n, room)
				}
				for n := range room {
					put(t, q, bands-1, packet(n))
				}
			}
			full(t, q)
			// What is stopped is full of as many, and takes as many.
			q.Stop()
			full(t, q)
			q.Flush()
			for n := range room {
				put(t, q, n, packet(n))
			}
			full(t, q)
		}
	}
}

// P15.2: all packets are taken, whatever their frames, and come out as they were
func TestPutAny(t *testing.T) {
	for _, p := range odd() {
		q := New(2, 3)
		put(t, q, 1, p)
		put(t, q, 0, p)
		put(t, q, 1, p)
		if !slices.Equal(q.All(), []api.Packet{p, p, p}) {
			t.Fatal(q.All())
		}
		for range 3 {
			take(t, q, p)
		}
		empty(t, q)
	}
}

// P15.3: the least band that has one goes first, though others have waited for longer; within one those that came first
func TestTake(t *testing.T) {
	q := New(4, 20)
	empty(t, q)
	for n, band := range []int{3, 1, 3, 2, 1, 3} {
		put(t, q, band, packet(n))
	}
	take(t, q, packet(1))
	take(t, q, packet(4))
	take(t, q, packet(3))
	take(t, q, packet(0))
	put(t, q, 0, packet(6))
	put(t, q, 3, packet(7))
	put(t, q, 0, packet(8))
	take(t, q, packet(6))
	put(t, q, 0, packet(9))
	put(t, q, 2, packet(10))
	for _, n := range []int{8, 9, 10, 2, 5, 7} {
		take(t, q, packet(n))
	}
	empty(t, q)
	empty(t, q)
	put(t, q, 2, packet(11))
	take(t, q, packet(11))
	empty(t, q)
}

// P15.3: whatever few are put into whichever bands
func TestTakeAllWays(t *testing.T) {
	const many, bands = 6, 3
	for way := range 729 { // bands to the power of many
		q := New(bands, many)
		var want []int
		w := way
		put3 := make([]int, many)
		for n := range many {
			put3[n] = w % bands
			w /= bands
			put(t, q, put3[n], packet(n))
		}
		for band := range bands {
			for n, b := range put3 {
				if b == band {
					want = append(want, n)
				}
			}
		}
		for n := range want {
			all(t, q, want[n:]...)
			take(t, q, packet(want[n]))
		}
		empty(t, q)
	}
}

// P15.4: what is stopped gives nothing, and takes what is put; woken it goes on; both may be told more than once
func TestStopWake(t *testing.T) {
	q := New(2, 5)
	told := func(want bool) {
		t.Helper()
		if q.Stopped() != want {
			t.Fatal(q.Stopped())
		}
	}
	told(false)
	q.Wake()
	told(false)
	put(t, q, 1, packet(1))
	for range 2 {
		q.Stop()
		told(true)
		empty(t, q)
	}
	put(t, q, 0, packet(2))
	told(true)
	all(t, q, 2, 1)
	empty(t, q)
	q.Wake()
	told(false)
	take(t, q, packet(2))
	q.Stop()
	empty(t, q)
	q.Wake()
	q.Wake()
	take(t, q, packet(1))
	empty(t, q)
	q.Stop()
	empty(t, q)
	told(true)
}

// P15.5: Flush counts, and leaves nothing, but whether it is stopped, and its bands and room
func TestFlush(t *testing.T) {
	for _, stopped := range []bool{false, true} {
		q := New(3, 4)
		if stopped {
			q.Stop()
		}
		for many := range 5 {
			for n := range many {
				put(t, q, n, packet(n))
			}
			if n := q.Flush(); n != many {
				t.Fatalf("Flush: %d, not %d", n, many)
			}
			all(t, q)
			empty(t, q)
			if n := q.Flush(); n != 0 || q.Stopped() != stopped {
				t.Fatal(n, q.Stopped())
			}
		}
		for n := range 4 {
			put(t, q, 3-n, packet(n))
		}
		full(t, q)
		all(t, q, 3, 2, 0, 1)
		q.Wake()
		take(t, q, packet(3))
	}
}

// P15.5: All and Len tell of what is stopped as of what isn't, and change nothing
func TestTold(t *testing.T) {
	q := New(3, 6)
	all(t, q)
	for n, band := range []int{2, 0, 1, 2, 0, 1} {
		put(t, q, band, packet(n))
	}
	for range 2 {
		all(t, q, 1, 4, 2, 5, 0, 3)
		q.Stop()
		all(t, q, 1, 4, 2, 5, 0, 3)
		q.Wake()
	}
	take(t, q, packet(1))
	take(t, q, packet(4))
	take(t, q, packet(2))
	all(t, q, 5, 0, 3)
}

// P15.2 to P15.5: nil
func TestNil(t *testing.T) {
	var q *Queue
	for range 2 {
		for _, band := range bounds() {
			for _, p := range odd() {
				if e := q.Put(band, p); e != api.ErrNil {
					t.Fatal(e)
				}
			}
		}
		if p, e := q.Take(); p != (api.Packet{}) || e != api.ErrNil {
			t.Fatal(p, e)
		}
		q.Stop()
		if q.Stopped() {
			t.Fatal("stopped")
		}
		q.Wake()
		if q.Stopped() || q.Len() != 0 || len(q.All()) != 0 || q.Flush() != 0 {
			t.Fatal(q.Stopped(), q.Len(), q.All())
		}
	}
}

// P1: a queue that New did not make has no room, and no call of it panics
func TestZeroQueue(t *testing.T) {
	var q Queue
	for range 2 {
		full(t, &q)
		all(t, &q)
		empty(t, &q)
		q.Stop()
		if !q.Stopped() {
			t.Fatal("not stopped")
		}
		empty(t, &q)
		q.Wake()
		if q.Stopped() || q.Flush() != 0 {
			t.Fatal(q.Stopped())
		}
	}
}

// step is a call of both the queue and the model, and fails if they answer unlike things.
func step(t *testing.T, random *rand.Rand, q *Queue, m *model, tag, puts int) {
	t.Helper()
	switch what := random.Intn(40); {
	case what < puts:
		band := random.Intn(m.bands+2) - 1
		p := odd()[random.Intn(len(odd()))]
		p.Tag = tag
		if e, want := q.Put(band, p), m.put(band, p); e != want {
			t.Fatalf("Put(%d, %+v): %d, not %d", band, p, e, want)
		}
	case what < 32:
		p, e := q.Take()
		if wantP, want := m.take(); p != wantP || e != want {
			t.Fatalf("Take: %+v, %d; not %+v, %d", p, e, wantP, want)
		}
	case what < 34:
		q.Stop()
		m.stopped = true
	case what < 39:
		q.Wake()
		m.stopped = false
	case random.Intn(4) == 0:
		if n, want := q.Flush(), m.flush(); n != want {
			t.Fatalf("Flush: %d, not %d", n, want)
		}
	}
}

// P15.1 to P15.5: long ways of queues, by chance
func TestLongWays(t *testing.T) {
	random := rand.New(rand.NewSource(155))
	for n := range 200 {
		bands, room := random.Intn(6), random.Intn(12)
		if n%20 == 0 {
			bands, room = 100*random.Intn(12), 50+random.Intn(100)
		}
		q, m := New(bands, room), newModel(bands, room)
		same(t, q, m)
		puts := []int{8, 15, 18, 28}[n%4]
		for tag := range 1000 {
			step(t, random, q, m, tag, puts)
			same(t, q, m)
		}
	}
}

// P15.1 to P15.5: all short ways of small queues
func TestShortWays(t *testing.T) {
	for size := range 9 {
		bands, room := size%3+1, size/3+1
		for way := range 6 * 6 * 6 * 6 * 6 * 6 {
			q, m := New(bands, room), newModel(bands, room)
			for n, w := 0, way; n < 6; n, w = n+1, w/6 {
				switch w % 6 {
				case 0, 1:
					band := w%6*5 - n%2
					if e, want := q.Put(band, packet(n)), m.put(band, packet(n)); e != want {
						t.Fatal(way, e, want)
					}
				case 2:
					p, e := q.Take()
					if wantP, want := m.take(); p != wantP || e != want {
						t.Fatal(way, p, e)
					}
				case 3:
					q.Stop()
					m.stopped = true
				case 4:
					q.Wake()
					m.stopped = false
				case 5:
					if q.Flush() != m.flush() {
						t.Fatal(way)
					}
				}
			}
			same(t, q, m)
		}
	}
}

// P15.6: what is taken is what was put, each once, within a band in that order; P15.7: in no greater band than anything that is there; P15.8: stopped, nothing is taken, and nothing is lost
func TestEachOnce(t *testing.T) {
	random := rand.New(rand.NewSource(156))
	total := 0
	for range 100 {
		bands, room := random.Intn(8)+1, random.Intn(30)+1
		q := New(bands, room)
		in := map[int]member{} // by tag: those that were put, and not taken yet
		stopped := false
		taken := func() bool {
			p, e := q.Take()
			if e != api.OK {
				if !stopped && len(in) > 0 || p != (api.Packet{}) {
					t.Fatal(p, e)
				}
				return false
			}
			x, is := in[p.Tag]
			if stopped || !is || p != x.packet {
				t.Fatalf("%+v was not put, or is taken twice, or it is stopped: %v", p, stopped)
			}
			delete(in, p.Tag)
			for tag, y := range in {
				if y.band < x.band || y.band == x.band && tag < p.Tag {
					t.Fatalf("%+v is taken ahead of %+v", x, y)
				}
			}
			total++
			return true
		}
		for n := range 500 {
			switch random.Intn(8) {
			case 0, 1, 2, 3:
				x := member{random.Intn(bands), packet(n)}
				x.packet.Loop = random.Intn(2) == 0
				if q.Put(x.band, x.packet) == api.OK {
					in[n] = x
				}
			case 4:
				stopped = random.Intn(3) == 0
				if stopped {
					q.Stop()
				} else {
					q.Wake()
				}
			default:
				taken()
			}
			if q.Len() != len(in) {
				t.Fatalf("Len %d, not %d", q.Len(), len(in))
			}
		}
		q.Wake()
		stopped = false
		for taken() {
		}
		if len(in) != 0 {
			t.Fatal(in)
		}
	}
	if total < 10000 {
		t.Fatal(total)
	}
}

// Rule 3: what is handed out is the caller's own, and two objects share nothing
func TestOwn(t *testing.T) {
	q, other := New(2, 9), New(2, 9)
	for n := range 3 {
		put(t, q, 0, packet(n))
	}
	first, second := q.All(), q.All()
	for n := range first {
		first[n] = packet(99)
	}
	_ = append(first[:1], packet(98))
	put(t, q, 0, packet(3))
	_ = append(first, packet(97))
	_ = append(second, packet(96))
	all(t, q, 0, 1, 2, 3)
	if !slices.Equal(second, []api.Packet{packet(0), packet(1), packet(2)}) {
		t.Fatal(second)
	}
	take(t, q, packet(0))
	q.Flush()
	put(t, q, 0, packet(4))
	if !slices.Equal(second, []api.Packet{packet(0), packet(1), packet(2)}) {
		t.Fatal(second)
	}
	all(t, other)
	q.Stop()
	if other.Stopped() {
		t.Fatal("the other one is stopped")
	}
}

// What was taken, or flushed, is not kept.
func TestNothingKept(t *testing.T) {
	q := New(3, 100)
	for n := range 5000 {
		put(t, q, n%3, packet(n))
		take(t, q, packet(n))
		if len(q.rows) != 0 {
			t.Fatal(n, q.rows)
		}
	}
	for n := range 10 {
		put(t, q, 1, packet(n))
	}
	for n := range 5000 {
		row := q.rows[1]
		put(t, q, 1, packet(n+10))
		take(t, q, packet(n))
		if row[0] != (api.Packet{}) && &row[1] == &q.rows[1][0] || len(q.rows) != 1 || cap(q.rows[1]) > 100 {
			t.Fatal(n, row[0], len(q.rows), cap(q.rows[1]))
		}
	}
	q.Flush()
	if len(q.rows) != 0 {
		t.Fatal(q.rows)
	}
}

// P1: many calls end soon, though there are as many bands, and as much room, as may be
func TestGreat(t *testing.T) {
	begun := time.Now()
	q := New(api.MaxRoom, api.MaxRoom)
	for n := range 1000 {
		put(t, q, 999, packet(n))
	}
	for n := range 50000 {
		p, e := q.Take()
		if e != api.OK || q.Put(999-n%2, p) != api.OK {
			t.Fatal(n, e)
		}
		if n%50 == 0 && (len(q.All()) != 1000 || q.Len() != 1000) {
			t.Fatal(n)
		}
	}
	if n := time.Since(begun); n > 20*time.Second {
		t.Error(n)
	}
}

// P2: calls that are refused, and those that ask, change nothing that a later one could tell.
func TestRefusedCallsChangeNothing(t *testing.T) {
	random := rand.New(rand.NewSource(2))
	for size := range 25 {
		bands, room := size%5+1, size/5+1
		q, m := New(bands, room), newModel(bands, room)
		for tag := range 300 {
			if q.Len() == room {
				full(t, q)
			}
			if q.Len() == 0 || q.Stopped() {
				empty(t, q)
			}
			same(t, q, m)
			step(t, random, q, m, tag, 18)
			same(t, q, m)
		}
	}
}

// The chapter's example.
func TestExample(t *testing.T) {
	q := New(2, 3)
	put(t, q, 1, packet('a'))
	put(t, q, 0, packet('b'))
	put(t, q, 1, packet('c'))
	for _, n := range "bac" {
		take(t, q, packet(int(n)))
	}
}

// P1: all calls end, at all arguments, and hold together.
func FuzzCallsEnd(f *testing.F) {
	f.Add(2, 3, "pppqqttttswtf", 0, 5, 0, 0, "", 0, 0)
	f.Add(0, 0, "pqtstwtf", -1, 1, 1, 8, "12345678", -1, 5)
	f.Add(math.MaxInt, math.MaxInt, "ppqtqf", math.MaxInt, math.MaxInt, 63, -1, "a", math.MaxInt, math.MaxInt)
	f.Add(math.MinInt, math.MinInt, "tqpt", math.MinInt, -1, -1, math.MinInt, "", math.MinInt, math.MinInt)
	f.Fuzz(func(t *testing.T, bands, room int, way string, band, id, flags, n int, data string, from, tag int) {
		q, m := New(bands, room), newModel(bands, room)
		for i, what := range []byte(way) {
			switch what & 7 {
			case 0, 1:
				at, p := int(what>>3)-1, packet(i)
				if what&1 == 1 {
					at, p = band, api.Packet{Frame: api.Frame{ID: id, Flags: flags, Len: n, Data: data}, From: from, Tag: tag, Loop: i&1 == 0}
				}
				if e, want := q.Put(at, p), m.put(at, p); e != want {
					t.Fatalf("Put(%d, %+v): %d, not %d", at, p, e, want)
				}
			case 2:
				q.Stop()
				m.stopped = true
			case 3:
				q.Wake()
				m.stopped = false
			case 4:
				if n, want := q.Flush(), m.flush(); n != want {
					t.Fatal(n, want)
				}
			default:
				p, e := q.Take()
				if wantP, want := m.take(); p != wantP || e != want {
					t.Fatal(p, e, wantP, want)
				}
			}
			if i < 50 {
				same(t, q, m)
			}
		}
		same(t, q, m)
	})
}
