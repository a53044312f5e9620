package ring

import (
	"fmt"
	"math"
	"math/rand"
	"slices"
	"testing"

	"signalbox/api"
)

// model is a row told otherwise than by the program: a slice that is cut in front and grows behind.
type model struct {
	room    int
	members []int
	lost    int
}

func (m *model) put(x int) bool {
	if len(m.members) >= m.room {
		m.lost++
		return false
	}
	m.members = append(m.members, x)
	return true
}

func (m *model) take() (int, api.Errno) {
	x, e := m.peek()
	if e == api.OK {
		m.members = m.members[1:]
	}
	return x, e
}

func (m *model) peek() (int, api.Errno) {
	if len(m.members) == 0 {
		return 0, api.ErrEmpty
	}
	return m.members[0], api.OK
}

func (m *model) clear() int {
	n := len(m.members)
	m.members = nil
	return n
}

// same fails if the row and the model tell unlike things.
func same(t *testing.T, r *Ring[int], m *model) {
	t.Helper()
	x, e := r.Peek()
	y, f := m.peek()
	if x != y || e != f || r.Len() != len(m.members) || r.Room() != m.room || r.Lost() != m.lost || !slices.Equal(r.All(), m.members) {
		t.Fatalf("%d %v, Len %d, Room %d, Lost %d, %v; not %+v", x, e, r.Len(), r.Room(), r.Lost(), r.All(), m)
	}
}

// full is a row with this room and so many members, the numbers from 1 on, behind others that were taken.
func full(room, members, taken int) *Ring[int] {
	r := New[int](room)
	for i := range taken {
		r.Put(-i)
		r.Take()
	}
	for i := range members {
		r.Put(i + 1)
	}
	return r
}

// upTo are the numbers from a to b.
func upTo(a, b int) []int {
	var l []int
	for n := a; n <= b; n++ {
		l = append(l, n)
	}
	return l
}

// drained are all that can be taken.
func drained[T any](r *Ring[T]) []T {
	var l []T
	for {
		x, e := r.Take()
		if e != api.OK {
			return l
		}
		l = append(l, x)
	}
}

// P11.1: Room
func TestRoom(t *testing.T) {
	for _, c := range []struct{ room, want int }{
		{1, 1}, {2, 2}, {3, 3}, {999, 999}, {1000, 1000},
		{0, 1}, {-1, 1}, {-1000, 1}, {math.MinInt, 1},
		{1001, 1000}, {1002, 1000}, {2000, 1000}, {1 << 32, 1000}, {1<<32 + 5, 1000}, {math.MaxInt, 1000},
	} {
		if got := New[int](c.room).Room(); got != c.want {
			t.Errorf("New(%d): Room %d", c.room, got)
		}
	}
	for room := -50; room <= 1100; room++ {
		if got := New[string](room).Room(); got != min(max(room, 1), api.MaxRoom) {
			t.Errorf("New(%d): Room %d", room, got)
		}
	}
}

// P11.1: a new row is empty, and nothing was lost
func TestNewIsEmpty(t *testing.T) {
	for _, room := range []int{math.MinInt, -1, 0, 1, 2, 1000, 1001, math.MaxInt} {
		r := New[int](room)
		if r == nil {
			t.Fatalf("New(%d): nil", room)
		}
		same(t, r, &model{room: min(max(room, 1), 1000)})
		if n := r.Clear(); n != 0 {
			t.Errorf("New(%d): Clear %d", room, n)
		}
	}
}

// P11.1, P11.2: as many as there is room for are taken, and not one more
func TestPutTillFull(t *testing.T) {
	for _, room := range append(upTo(-2, 40), 255, 256, 257, 511, 512, 513, 998, 999, 1000, 1001, 5000) {
		r := New[int](room)
		most := min(max(room, 1), 1000)
		for n := 1; n <= most+5; n++ {
			if got := r.Put(n); got != (n <= most) {
				t.Fatalf("room %d: Put number %d: %v", room, n, got)
			}
			if r.Len() != min(n, most) || r.Lost() != max(n-most, 0) || r.Room() != most {
				t.Fatalf("room %d: behind %d: Len %d, Lost %d, Room %d", room, n, r.Len(), r.Lost(), r.Room())
			}
		}
		if got := r.All(); !slices.Equal(got, upTo(1, most)) {
			t.Fatalf("room %d: %v", room, got)
		}
	}
}

// P11.2: x stands behind all, wherever the first one stands
func TestPutBehindAll(t *testing.T) {
	for room := 1; room <= 9; room++ {
		for members := 0; members < room; members++ {
			for taken := range 3 * room {
				r := full(room, members, taken)
				if !r.Put(99) {
					t.Fatalf("room %d, %d members, %d taken: Put false", room, members, taken)
				}
				if got, want := r.All(), append(upTo(1, members), 99); !slices.Equal(got, want) {
					t.Fatalf("room %d, %d members, %d taken: %v", room, members, taken, got)
				}
				if r.Lost() != 0 {
					t.Fatalf("room %d, %d members, %d taken: Lost %d", room, members, taken, r.Lost())
				}
			}
		}
	}
}

// P11.2: of a full row one is lost, what stands in it stays, and room comes back by what is taken or cleared
func TestLost(t *testing.T) {
	for room := 1; room <= 9; room++ {
		for taken := range 2 * room {
			r := full(room, room, taken)
			for n := 1; n <= 7; n++ {
				if r.Put(99) || r.Lost() != n || r.Len() != room || !slices.Equal(r.All(), upTo(1, room)) {
					t.Fatalf("room %d, %d taken: Lost %d, %v", room, taken, r.Lost(), r.All())
				}
			}
			r.Take()
			if !r.Put(room+1) || r.Put(99) || r.Lost() != 8 || !slices.Equal(r.All(), upTo(2, room+1)) {
				t.Fatalf("room %d, %d taken, behind Take: Lost %d, %v", room, taken, r.Lost(), r.All())
			}
			if n := r.Clear(); n != room || r.Lost() != 8 {
				t.Fatalf("room %d, %d taken: Clear %d, Lost %d", room, taken, n, r.Lost())
			}
			if !r.Put(5) || r.Lost() != 8 {
				t.Fatalf("room %d, %d taken, behind Clear: Lost %d, %v", room, taken, r.Lost(), r.All())
			}
		}
	}
}

// P11.3: Take
func TestTake(t *testing.T) {
	for room := 1; room <= 9; room++ {
		for members := 0; members <= room; members++ {
			for taken := range 2 * room {
				r := full(room, members, taken)
				for n := 1; n <= members; n++ {
					if x, e := r.Take(); x != n || e != api.OK {
						t.Fatalf("room %d, %d members, %d taken: Take number %d: %d %v", room, members, taken, n, x, e)
					}
					if r.Len() != members-n || !slices.Equal(r.All(), upTo(n+1, members)) {
						t.Fatalf("room %d, %d members, %d taken: behind %d: %v", room, members, taken, n, r.All())
					}
				}
				for range 3 {
					if x, e := r.Take(); x != 0 || e != api.ErrEmpty || r.Len() != 0 {
						t.Fatalf("room %d: Take of none: %d %v", room, x, e)
					}
				}
			}
		}
	}
}

// P11.3: Peek
func TestPeek(t *testing.T) {
	for room := 1; room <= 9; room++ {
		for members := 1; members <= room; members++ {
			for taken := range 2 * room {
				r := full(room, members, taken)
				for range 3 {
					if x, e := r.Peek(); x != 1 || e != api.OK || !slices.Equal(r.All(), upTo(1, members)) {
						t.Fatalf("room %d, %d members, %d taken: Peek %d %v, %v", room, members, taken, x, e, r.All())
					}
				}
				drained(r)
				for range 3 {
					if x, e := r.Peek(); x != 0 || e != api.ErrEmpty {
						t.Fatalf("room %d: Peek of none: %d %v", room, x, e)
					}
				}
			}
		}
	}
}

// P11.3: a zero value that was put is told with OK, unlike none
func TestZeroValuesAreMembers(t *testing.T) {
	r := New[int](2)
	r.Put(0)
	if x, e := r.Peek(); x != 0 || e != api.OK || r.Len() != 1 {
		t.Error(x, e, r.Len())
	}
	if x, e := r.Take(); x != 0 || e != api.OK || r.Len() != 0 {
		t.Error(x, e, r.Len())
	}
	if x, e := r.Take(); x != 0 || e != api.ErrEmpty {
		t.Error(x, e)
	}
}

// P11.4: Len, All, Clear
func TestLenAllClear(t *testing.T) {
	for room := 1; room <= 9; room++ {
		for members := 0; members <= room; members++ {
			for taken := range 2 * room {
				r := full(room, members, taken)
				for range 2 {
					if r.Len() != members || !slices.Equal(r.All(), upTo(1, members)) {
						t.Fatalf("room %d, %d members, %d taken: Len %d, %v", room, members, taken, r.Len(), r.All())
					}
				}
				for range 3 {
					r.Put(7)
				}
				if n := r.Clear(); n != min(members+3, room) {
					t.Fatalf("room %d, %d members, %d taken: Clear %d", room, members, taken, n)
				}
				if n := r.Clear(); n != 0 {
					t.Fatalf("room %d: Clear of none: %d", room, n)
				}
				same(t, r, &model{room: room, lost: max(members+3-room, 0)})
			}
		}
	}
}

// P11.4: a cleared row takes as many as a new one, in order
func TestPutBehindClear(t *testing.T) {
	for room := 1; room <= 9; room++ {
		for members := 0; members <= room; members++ {
			for taken := range 2 * room {
				r := full(room, members, taken)
				r.Clear()
				m := &model{room: room}
				for n := range room + 2 {
					if got, want := r.Put(n+50), m.put(n+50); got != want {
						t.Fatalf("room %d, %d members, %d taken: Put number %d: %v", room, members, taken, n, got)
					}
					same(t, r, m)
				}
			}
		}
	}
}

// P11.5: nil
func TestNil(t *testing.T) {
	nils(t, 5)
	nils(t, "a")
	nils(t, api.Frame{ID: 1})
	nils(t, &api.Frame{ID: 1})
	nils[any](t, 5)
	nils(t, []int{1})
}

func nils[T any](t *testing.T, x T) {
	t.Helper()
	var r *Ring[T]
	var none T
	for range 2 {
		if r.Put(x) {
			t.Error("Put: true")
		}
		if got, e := r.Take(); e != api.ErrNil || fmt.Sprint(got) != fmt.Sprint(none) {
			t.Error("Take:", got, e)
		}
		if got, e := r.Peek(); e != api.ErrNil || fmt.Sprint(got) != fmt.Sprint(none) {
			t.Error("Peek:", got, e)
		}
		if r.Len() != 0 || r.Room() != 0 || r.Lost() != 0 || len(r.All()) != 0 || r.Clear() != 0 {
			t.Error(r.Len(), r.Room(), r.Lost(), r.All(), r.Clear())
		}
	}
}

// P1: a row that New did not make has no room, and no call of it panics
func TestZeroRing(t *testing.T) {
	var r Ring[int]
	m := &model{}
	for n := range 3 {
		same(t, &r, m)
		if r.Put(n) || m.put(n) {
			t.Error("Put: true")
		}
		if x, e := r.Take(); x != 0 || e != api.ErrEmpty {
			t.Error(x, e)
		}
		if got := r.Clear(); got != 0 {
			t.Error(got)
		}
	}
	same(t, &r, m)
}

// P11.6: long ways of a row, by chance; none is told twice, none is missing
func TestLongWays(t *testing.T) {
	random := rand.New(rand.NewSource(116))
	for range 300 {
		room := random.Intn(12) + 1
		if random.Intn(10) == 0 {
			room = 900 + random.Intn(101)
		}
		often := random.Intn(10) + 1
		r, m := New[int](room), &model{room: room}
		put, taken, cleared := 0, 0, 0
		for range 800 {
			switch what := random.Intn(20); {
			case what == 0 && random.Intn(5) == 0:
				n := r.Clear()
				if n != m.clear() {
					t.Fatalf("Clear: %d", n)
				}
				cleared += n
			case what < often:
				x, e := r.Take()
				if y, f := m.take(); x != y || e != f {
					t.Fatalf("Take: %d %v, not %d %v", x, e, y, f)
				}
				if e == api.OK {
					taken++
				}
			default:
				put++
				if r.Put(put) != m.put(put) {
					t.Fatalf("Put: behind %+v", m)
				}
			}
			same(t, r, m)
			if put != taken+r.Len()+r.Lost()+cleared {
				t.Fatalf("%d put; %d taken, %d there, %d lost, %d cleared", put, taken, r.Len(), r.Lost(), cleared)
			}
		}
	}
}

// P11.6: all short ways of small rows
func TestShortWays(t *testing.T) {
	for room := 1; room <= 4; room++ {
		for way := range 1 << 16 {
			r, m := New[int](room), &model{room: room}
			for n, w := 0, way; n < 8; n, w = n+1, w>>2 {
				switch w & 3 {
				case 0, 1:
					r.Put(n)
					m.put(n)
				case 2:
					x, e := r.Take()
					if y, f := m.take(); x != y || e != f {
						t.Fatalf("way %d: Take %d %v", way, x, e)
					}
				case 3:
					if r.Clear() != m.clear() {
						t.Fatalf("way %d: Clear", way)
					}
				}
			}
			same(t, r, m)
		}
	}
}

// P11.2, P11.3, P11.6: members of any type go in and out as they are
func TestAnyType(t *testing.T) {
	anyType(t, []string{"", "a", "\x00\xff", "a"})
	anyType(t, []api.Frame{{}, {ID: 1, Len: 2, Data: "ab"}, {ID: -1, Flags: 99}})
	anyType(t, []*api.Frame{{}, nil, {ID: 1}})
	anyType(t, []struct{}{{}, {}, {}})
	anyType(t, []any{nil, 1, "a", 1.5, api.OK})
	anyType(t, []error{nil, api.ErrNil, api.OK})
	anyType(t, [][3]int{{}, {1, 2, 3}, {3, 2, 1}})
	anyType(t, []bool{false, true, true})
}

func anyType[T comparable](t *testing.T, members []T) {
	t.Helper()
	for taken := range 5 {
		r := New[T](len(members))
		for range taken {
			r.Put(members[0])
			r.Take()
		}
		for _, x := range members {
			if !r.Put(x) {
				t.Fatal("Put: false")
			}
		}
		if r.Put(members[0]) || r.Lost() != 1 || !slices.Equal(r.All(), members) {
			t.Fatal(r.Lost(), r.All())
		}
		if got := drained(r); !slices.Equal(got, members) {
			t.Fatal(got)
		}
		var none T
		if x, e := r.Take(); x != none || e != api.ErrEmpty {
			t.Fatal(x, e)
		}
	}
}

// Rule 3: what All tells is the caller's own, and two rows share nothing
func TestOwn(t *testing.T) {
	for room := 1; room <= 5; room++ {
		for members := 0; members <= room; members++ {
			for taken := range 2 * room {
				r, other := full(room, members, taken), full(room, members, taken)
				first, second := r.All(), r.All()
				for i := range first {
					first[i] = -5
				}
				_ = append(first, -6, -7, -8)
				_ = append(second[:0], -9)
				want := upTo(1, members)
				if !slices.Equal(r.All(), want) || !slices.Equal(other.All(), want) {
					t.Fatalf("room %d, %d members, %d taken: %v, %v", room, members, taken, r.All(), other.All())
				}
				if members > 1 && second[1] != 2 {
					t.Fatalf("room %d: one list of All changed another one: %v", room, second)
				}
				third := r.All()
				drained(r)
				for range room {
					r.Put(-3)
				}
				if !slices.Equal(third, want) || !slices.Equal(other.All(), want) {
					t.Fatalf("room %d, %d members, %d taken: later calls changed what was told: %v", room, members, taken, third)
				}
			}
		}
	}
}

// What is in the row no more is not kept.
func TestNothingKept(t *testing.T) {
	for room := 1; room <= 9; room++ {
		for members := 0; members <= room; members++ {
			for taken := range 2 * room {
				r := New[*int](room)
				for range taken {
					r.Put(new(int))
					r.Take()
				}
				for range members {
					r.Put(new(int))
				}
				for left := members; left > 0; left-- {
					if n := held(r); n != left {
						t.Fatalf("room %d: %d of %d are kept", room, n, left)
					}
					if left == 2 {
						r.Clear()
						break
					}
					r.Take()
				}
				if n := held(r); n != 0 {
					t.Fatalf("room %d: %d of 0 are kept", room, n)
				}
			}
		}
	}
}

// held are how many slots are not empty.
func held(r *Ring[*int]) int {
	n := 0
	for _, x := range r.slots {
		if x != nil {
			n++
		}
	}
	return n
}

// The chapter's example.
func TestExample(t *testing.T) {
	r := New[int](1)
	if !r.Put(7) || r.Put(8) || r.Lost() != 1 {
		t.Error(r.Lost())
	}
	if x, e := r.Take(); x != 7 || e != api.OK {
		t.Error(x, e)
	}
}

// P1, P2: calls that are refused change nothing that a later one could tell, but for what is lost.
func TestRefusedCallsChangeNothing(t *testing.T) {
	for room := 1; room <= 5; room++ {
		for taken := range 2 * room {
			r, m := full(room, 0, taken), &model{room: room}
			for range 3 {
				if x, e := r.Take(); x != 0 || e != api.ErrEmpty {
					t.Fatal(x, e)
				}
				if x, e := r.Peek(); x != 0 || e != api.ErrEmpty {
					t.Fatal(x, e)
				}
				if r.Clear() != 0 {
					t.Fatal("Clear of none")
				}
				same(t, r, m)
			}
			for n := range room + 3 {
				r.Put(n)
				m.put(n)
				same(t, r, m)
			}
			for range room + 3 {
				x, e := r.Take()
				if y, f := m.take(); x != y || e != f {
					t.Fatal(x, e)
				}
				same(t, r, m)
			}
		}
	}
}

// P1: all calls end, at all arguments, and hold together.
func FuzzCallsEnd(f *testing.F) {
	f.Add(3, "pppptptaccppppppp")
	f.Add(0, "")
	f.Add(-1, "pptp")
	f.Add(math.MaxInt, "tpcp")
	f.Add(math.MinInt, "ppppt")
	f.Fuzz(func(t *testing.T, room int, way string) {
		r, m := New[int](room), &model{room: min(max(room, 1), 1000)}
		for n, what := range []byte(way) {
			switch what % 8 {
			case 3:
				if r.Clear() != m.clear() {
					t.Fatal("Clear")
				}
			case 4, 1:
				x, e := r.Take()
				if y, f := m.take(); x != y || e != f {
					t.Fatal(x, e)
				}
			default:
				if r.Put(n) != m.put(n) {
					t.Fatal("Put")
				}
			}
			if n < 100 {
				same(t, r, m)
			}
		}
		same(t, r, m)
	})
}
