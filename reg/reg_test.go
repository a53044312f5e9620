package reg

import (
	"math"
	"math/rand"
	"slices"
	"testing"
	"time"

	"signalbox/api"
	"signalbox/frame"
	"signalbox/match"
)

// full is a Mask of all bits.
const full = math.MaxUint32

// exact is the filter of one word alone.
func exact(word uint32) api.Filter {
	return api.Filter{ID: word, Mask: full}
}

// narrow is a frame with this ID.
func narrow(id int) api.Frame {
	return api.Frame{ID: id}
}

// silent are frames that no filter lets through: those that tell of errors, and those that may not be.
func silent() []api.Frame {
	return []api.Frame{
		{Flags: api.Err, Len: 8, Data: "12345678"},
		{ID: 5, Flags: api.Err, Len: 8, Data: "12345678"},
		{ID: api.Wide, Flags: api.Err, Len: 8, Data: "12345678"},
		{Flags: api.Err},
		{ID: -1},
		{ID: 2048},
		{ID: 1 << 29, Flags: api.Ext},
		{ID: 1 << 32},
		{ID: 1<<32 + 5},
		{ID: math.MaxInt},
		{ID: math.MinInt},
		{Len: 1},
		{ID: 5, Data: "a"},
		{Len: 9, Data: "123456789"},
		{Len: math.MaxInt},
		{Len: -1},
		{Flags: api.Rtr, Len: 1, Data: "a"},
		{Flags: api.Rtr | api.Fd},
		{Flags: api.Brs},
		{Flags: 64},
		{Flags: -1},
	}
}

// heard are frames of all kinds that filters may let through.
func heard() []api.Frame {
	return []api.Frame{
		{},
		{ID: 1},
		{ID: 1, Len: 2, Data: "ab"},
		{ID: 1, Flags: api.Rtr},
		{ID: 1, Flags: api.Ext},
		{ID: 1, Flags: api.Ext | api.Rtr, Len: 8},
		{ID: 5, Len: 8, Data: "12345678"},
		{ID: 5, Flags: api.Fd, Len: 12, Data: "123456789012"},
		{ID: 5, Flags: api.Fd | api.Brs | api.Esi},
		{ID: 256},
		{ID: 511, Flags: api.Fd | api.Brs, Len: 64, Data: string(make([]byte, 64))},
		{ID: api.Narrow, Flags: api.Rtr, Len: 8},
		{ID: api.Wide, Flags: api.Ext},
		{ID: api.Wide, Flags: api.Ext | api.Fd},
	}
}

// filters are some of all kinds; several hit one word alone, or nothing, or all, and several differ in bits alone that do not count.
func filters() []api.Filter {
	return []api.Filter{
		{},
		{Inv: true},
		{ID: 5},
		{ID: full},
		exact(0),
		exact(1),
		exact(5),
		exact(256),
		exact(1 | api.WordRtr),
		exact(1 | api.WordExt),
		exact(1 | api.WordErr),
		exact(full),
		exact(api.Wide | api.WordExt),
		{ID: 0, Mask: full, Inv: true},
		{ID: 5, Mask: full, Inv: true},
		{ID: 5, Mask: 2047},
		{ID: 5, Mask: full - 1},
		{ID: 4, Mask: full - 1},
		{ID: 256, Mask: 1792},
		{ID: 257, Mask: 1792},
		{ID: 256, Mask: 1792, Inv: true},
		{Mask: 1 << 31},
		{ID: api.WordExt, Mask: api.WordExt},
		{ID: api.WordErr, Mask: api.WordErr},
		{ID: api.WordErr, Mask: api.WordErr, Inv: true},
	}
}

// owners are some of all kinds.
func owners() []int {
	return []int{0, 1, 2, 7, -1, 99, 100, 1 << 32, math.MaxInt, math.MinInt}
}

// want is an entry of a model.
type want struct {
	owner int
	f     api.Filter
}

// model is who wants what told otherwise than by the program: one row, that is gone through.
type model []want

func (m *model) add(owner int, f api.Filter) api.Errno {
	if len(*m) == 51200 {
		return api.ErrMany
	}
	*m = append(*m, want{owner, f})
	return api.OK
}

func (m *model) drop(owner int) int {
	var left model
	for _, w := range *m {
		if w.owner != owner {
			left = append(left, w)
		}
	}
	n := len(*m) - len(left)
	*m = left
	return n
}

func (m *model) cut(owner int, f api.Filter) api.Errno {
	at := slices.Index(*m, want{owner, f})
	if at == -1 {
		return api.ErrArg
	}
	*m = slices.Concat((*m)[:at], (*m)[at+1:])
	return api.OK
}

func (m model) find(x api.Frame) []int {
	var l []int
	for _, w := range m {
		if match.Match(w.f, x) {
			l = append(l, w.owner)
		}
	}
	return l
}

// who is told from behind: an owner goes ahead, and where it stands further behind it is left out.
func (m model) who(x api.Frame) []int {
	var l []int
	found := m.find(x)
	for n := len(found) - 1; n >= 0; n-- {
		if slices.Index(found, found[n]) == n {
			l = append([]int{found[n]}, l...)
		}
	}
	return l
}

func (m model) hits(x api.Frame, owner int) int {
	n := 0
	for _, one := range m.find(x) {
		if one == owner {
			n++
		}
	}
	return n
}

// find fails if others are found, or in another order.
func find(t *testing.T, r *Reg, x api.Frame, want ...int) {
	t.Helper()
	if l := r.Find(x); !slices.Equal(l, want) {
		t.Fatalf("Find(%+v): %v, not %v", x, l, want)
	}
}

// who fails if others are told, or in another order.
func who(t *testing.T, r *Reg, x api.Frame, want ...int) {
	t.Helper()
	if l := r.Who(x); !slices.Equal(l, want) {
		t.Fatalf("Who(%+v): %v, not %v", x, l, want)
	}
}

// hits fails if that owner has another number of entries that let x through.
func hits(t *testing.T, r *Reg, x api.Frame, owner, want int) {
	t.Helper()
	if n := r.Hits(x, owner); n != want {
		t.Fatalf("Hits(%+v, %d): %d, not %d", x, owner, n, want)
	}
}

// length fails if there are more entries, or less.
func length(t *testing.T, r *Reg, want int) {
	t.Helper()
	if n := r.Len(); n != want {
		t.Fatalf("Len: %d, not %d", n, want)
	}
}

// add fails if an entry is not added.
func add(t *testing.T, r *Reg, owner int, l ...api.Filter) {
	t.Helper()
	for _, f := range l {
		if e := r.Add(owner, f); e != api.OK {
			t.Fatalf("Add(%d, %+v): %d", owner, f, e)
		}
	}
}

// cut fails if the answer is another one.
func cut(t *testing.T, r *Reg, owner int, f api.Filter, want api.Errno) {
	t.Helper()
	if e := r.Cut(owner, f); e != want {
		t.Fatalf("Cut(%d, %+v): %d, not %d", owner, f, e, want)
	}
}

// drop fails if another number goes.
func drop(t *testing.T, r *Reg, owner, want int) {
	t.Helper()
	if n := r.Drop(owner); n != want {
		t.Fatalf("Drop(%d): %d, not %d", owner, n, want)
	}
}

// same fails if the register and the model tell unlike things.
func same(t *testing.T, r *Reg, m *model) {
	t.Helper()
	length(t, r, len(*m))
	for _, x := range heard() {
		find(t, r, x, m.find(x)...)
		who(t, r, x, m.who(x)...)
		for _, owner := range []int{0, 1, 2, 3, -1} {
			hits(t, r, x, owner, m.hits(x, owner))
		}
	}
}

// P18.1: New has no entries
func TestNew(t *testing.T) {
	r := New()
	if r == nil {
		t.Fatal("nil")
	}
	length(t, r, 0)
	for _, x := range slices.Concat(heard(), silent()) {
		find(t, r, x)
		who(t, r, x)
		hits(t, r, x, 0, 0)
	}
	for _, owner := range owners() {
		drop(t, r, owner, 0)
		for _, f := range filters() {
			cut(t, r, owner, f, api.ErrArg)
		}
	}
	length(t, r, 0)
}

// P18.1: what is added stands behind all, of whichever kinds its filter and those ahead are; one may be there twice
func TestAddBehind(t *testing.T) {
	through := []api.Filter{exact(5), {}, {ID: 9, Mask: full, Inv: true}, {ID: 5, Mask: 2047}, exact(5), {}, exact(5)}
	r := New()
	var want []int
	for n := range 200 {
		add(t, r, n, through[n%len(through)])
		add(t, r, n, exact(6))
		want = append(want, n)
		find(t, r, narrow(5), want...)
		length(t, r, 2*n+2)
	}
}

// P18.1: any owner may have any filter, as often as it likes
func TestAddAny(t *testing.T) {
	r, m := New(), &model{}
	for range 2 {
		for _, f := range filters() {
			for _, owner := range owners() {
				add(t, r, owner, f)
				m.add(owner, f)
			}
			same(t, r, m)
		}
	}
	for _, x := range heard() {
		for _, owner := range owners() {
			hits(t, r, x, owner, m.hits(x, owner))
		}
	}
	for _, owner := range owners() {
		drop(t, r, owner, 2*len(filters()))
	}
	length(t, r, 0)
}

// P18.1: there is room for 51200 entries, whatever their filters, and for no more, till one goes
func TestAddMany(t *testing.T) {
	kinds := map[string]func(n int) api.Filter{
		"one word":  func(int) api.Filter { return exact(5) },
		"each word": func(n int) api.Filter { return exact(uint32(n)) },
		"all words": func(int) api.Filter { return api.Filter{} },
		"both":      func(n int) api.Filter { return []api.Filter{{}, exact(5)}[n&1] },
	}
	for name, kind := range kinds {
		r := New()
		for n := range 51200 {
			if e := r.Add(n%100, kind(n)); e != api.OK {
				t.Fatal(name, n, e)
			}
		}
		length(t, r, 51200)
		before := r.Find(narrow(5))
		for _, f := range filters() {
			for _, owner := range owners() {
				if e := r.Add(owner, f); e != api.ErrMany {
					t.Fatal(name, owner, f, e)
				}
			}
		}
		length(t, r, 51200)
		find(t, r, narrow(5), before...)
		cut(t, r, 0, kind(0), api.OK)
		add(t, r, 7, exact(77))
		if e := r.Add(7, exact(77)); e != api.ErrMany {
			t.Fatal(name, e)
		}
		drop(t, r, 1, 512)
		for range 512 {
			add(t, r, 1, api.Filter{})
		}
		if e := r.Add(1, api.Filter{}); e != api.ErrMany {
			t.Fatal(name, e)
		}
		length(t, r, 51200)
	}
}

// P18.2: all entries of that owner go, and no other ones; how many they were
func TestDrop(t *testing.T) {
	for _, gone := range owners() {
		r, m := New(), &model{}
		for n, f := range filters() {
			for k, owner := range owners() {
				if (n+k)%3 > 0 {
					add(t, r, owner, f)
					m.add(owner, f)
				}
			}
		}
		drop(t, r, gone, m.drop(gone))
		same(t, r, m)
		drop(t, r, gone, 0)
		drop(t, r, 12345, 0)
		same(t, r, m)
		add(t, r, gone, exact(5), api.Filter{})
		m.add(gone, exact(5))
		m.add(gone, api.Filter{})
		same(t, r, m)
		drop(t, r, gone, 2)
	}
}

// P18.2: of each set of a few entries
func TestDropAllWays(t *testing.T) {
	kinds := []api.Filter{exact(5), {}, exact(6)}
	for way := range 729 {
		r, m := New(), &model{}
		for n, w := 0, way; n < 6; n, w = n+1, w/3 {
			add(t, r, w%3, kinds[n%3])
			m.add(w%3, kinds[n%3])
		}
		for owner := range 3 {
			drop(t, r, owner, m.drop(owner))
			same(t, r, m)
		}
		length(t, r, 0)
	}
}

// P18.2: only an entry with that owner and just that filter goes, though others hit the same words
func TestCutJust(t *testing.T) {
	for _, f := range filters() {
		r, m := New(), &model{}
		for _, other := range filters() {
			if other != f {
				add(t, r, 1, other)
				m.add(1, other)
			}
			add(t, r, 2, other)
			m.add(2, other)
		}
		cut(t, r, 1, f, api.ErrArg)
		cut(t, r, 3, f, api.ErrArg)
		same(t, r, m)
		add(t, r, 1, f)
		cut(t, r, 1, f, api.OK)
		same(t, r, m)
	}
}

// P18.2: the first one that has it goes, the others stay where they are
func TestCutFirst(t *testing.T) {
	for _, f := range []api.Filter{exact(5), {}, {ID: 5, Mask: 2047}, {ID: 6, Mask: full, Inv: true}} {
		r := New()
		for n := range 4 {
			add(t, r, 1, f)
			add(t, r, 10+n, exact(5))
			add(t, r, 20+n, api.Filter{})
		}
		find(t, r, narrow(5), 1, 10, 20, 1, 11, 21, 1, 12, 22, 1, 13, 23)
		cut(t, r, 1, f, api.OK)
		find(t, r, narrow(5), 10, 20, 1, 11, 21, 1, 12, 22, 1, 13, 23)
		cut(t, r, 1, f, api.OK)
		find(t, r, narrow(5), 10, 20, 11, 21, 1, 12, 22, 1, 13, 23)
		length(t, r, 10)
		cut(t, r, 11, exact(5), api.OK)
		cut(t, r, 21, api.Filter{}, api.OK)
		cut(t, r, 1, f, api.OK)
		find(t, r, narrow(5), 10, 20, 12, 22, 1, 13, 23)
		cut(t, r, 1, f, api.OK)
		cut(t, r, 1, f, api.ErrArg)
		find(t, r, narrow(5), 10, 20, 12, 22, 13, 23)
		add(t, r, 1, f)
		find(t, r, narrow(5), 10, 20, 12, 22, 13, 23, 1)
		length(t, r, 7)
	}
}

// P18.3: those are found, entry by entry, whose filter lets the frame through
func TestFind(t *testing.T) {
	r := New()
	add(t, r, 1, exact(5))
	add(t, r, 2, api.Filter{})
	add(t, r, 3, exact(6), exact(5))
	add(t, r, 4, api.Filter{ID: 5, Mask: full, Inv: true})
	add(t, r, 5, api.Filter{ID: 256, Mask: 1792})
	add(t, r, 2, exact(5|api.WordExt), exact(5|api.WordRtr), exact(256))
	add(t, r, 6, api.Filter{Inv: true})
	add(t, r, 1, api.Filter{ID: 4, Mask: 2046}, exact(5))
	find(t, r, narrow(5), 1, 2, 3, 1, 1)
	find(t, r, api.Frame{ID: 5, Flags: api.Fd, Len: 12, Data: "123456789012"}, 1, 2, 3, 1, 1)
	find(t, r, narrow(6), 2, 3, 4)
	find(t, r, narrow(4), 2, 4, 1)
	find(t, r, narrow(7), 2, 4)
	find(t, r, narrow(256), 2, 4, 5, 2)
	find(t, r, narrow(511), 2, 4, 5)
	find(t, r, narrow(512), 2, 4)
	find(t, r, api.Frame{ID: 5, Flags: api.Ext}, 2, 4, 2, 1)
	find(t, r, api.Frame{ID: 5, Flags: api.Rtr}, 2, 4, 2, 1)
	find(t, r, api.Frame{ID: 5, Flags: api.Rtr | api.Ext}, 2, 4, 1)
}

// P18.3: nobody is found of what tells of an error, or may not be, though its word, or 0, is hit
func TestFindSilent(t *testing.T) {
	r := New()
	for _, f := range filters() {
		add(t, r, 1, f)
	}
	for _, x := range silent() {
		add(t, r, 1, match.Exact(x), exact(uint32(x.ID)), exact(frame.Word(x)))
	}
	for _, x := range silent() {
		find(t, r, x)
		who(t, r, x)
		hits(t, r, x, 1, 0)
	}
	if l := r.Find(api.Frame{}); len(l) == 0 {
		t.Fatal(l)
	}
}

// P18.3: as many hits as Find tells that owner
func TestHits(t *testing.T) {
	r := New()
	add(t, r, 1, exact(5), api.Filter{}, exact(6), exact(5))
	add(t, r, 2, exact(5), exact(6))
	add(t, r, -1, api.Filter{}, api.Filter{Inv: true}, api.Filter{ID: 6, Mask: full, Inv: true})
	for _, one := range []struct{ id, owner, want int }{
		{5, 1, 3}, {5, 2, 1}, {5, -1, 2}, {5, 0, 0}, {5, 3, 0},
		{6, 1, 2}, {6, 2, 1}, {6, -1, 1}, {6, 0, 0},
		{7, 1, 1}, {7, 2, 0}, {7, -1, 2}, {7, math.MaxInt, 0},
	} {
		hits(t, r, narrow(one.id), one.owner, one.want)
	}
}

// P18.3: each owner once, where it stands first
func TestWho(t *testing.T) {
	r := New()
	add(t, r, 3, exact(6))
	add(t, r, 2, api.Filter{})
	add(t, r, 1, exact(5), exact(5))
	add(t, r, 2, exact(5))
	add(t, r, 3, api.Filter{}, exact(5))
	add(t, r, 0, exact(6), exact(5))
	add(t, r, 1, api.Filter{})
	find(t, r, narrow(5), 2, 1, 1, 2, 3, 3, 0, 1)
	who(t, r, narrow(5), 2, 1, 3, 0)
	who(t, r, narrow(6), 3, 2, 0, 1)
	who(t, r, narrow(7), 2, 3, 1)
	cut(t, r, 2, api.Filter{}, api.OK)
	who(t, r, narrow(5), 1, 2, 3, 0)
	who(t, r, narrow(7), 3, 1)
}

// P18.4: Len is how many entries there are
func TestLen(t *testing.T) {
	r, n := New(), 0
	for _, f := range filters() {
		for range 2 {
			for _, owner := range []int{1, 2} {
				add(t, r, owner, f)
				n++
				length(t, r, n)
			}
		}
	}
	for _, f := range filters() {
		cut(t, r, 2, f, api.OK)
		n--
		length(t, r, n)
	}
	drop(t, r, 1, 2*len(filters()))
	length(t, r, n-2*len(filters()))
	drop(t, r, 1, 0)
	drop(t, r, 2, len(filters()))
	length(t, r, 0)
}

// P18.1 to P18.4: nil
func TestNil(t *testing.T) {
	var r *Reg
	for range 2 {
		for _, owner := range owners() {
			for _, f := range filters() {
				if e := r.Add(owner, f); e != api.ErrNil {
					t.Fatal(owner, f, e)
				}
				cut(t, r, owner, f, api.ErrNil)
			}
			drop(t, r, owner, 0)
			for _, x := range slices.Concat(heard(), silent()) {
				hits(t, r, x, owner, 0)
			}
		}
		for _, x := range slices.Concat(heard(), silent()) {
			find(t, r, x)
			who(t, r, x)
		}
		length(t, r, 0)
	}
}

// P1: one that New did not make has no entries, and no call of it panics
func TestZeroReg(t *testing.T) {
	for _, f := range filters() {
		var r Reg
		m := &model{}
		same(t, &r, m)
		drop(t, &r, 1, 0)
		cut(t, &r, 1, f, api.ErrArg)
		add(t, &r, 1, f)
		m.add(1, f)
		same(t, &r, m)
		cut(t, &r, 1, f, api.OK)
		same(t, &r, &model{})
	}
}

// call is a call of both the register and the model, and fails if they answer unlike things.
func call(t *testing.T, what, owner int, f api.Filter, r *Reg, m *model) {
	t.Helper()
	switch what {
	case 0:
		if e, want := r.Add(owner, f), m.add(owner, f); e != want {
			t.Fatalf("Add(%d, %+v): %d, not %d", owner, f, e, want)
		}
	case 1:
		cut(t, r, owner, f, m.cut(owner, f))
	case 2:
		drop(t, r, owner, m.drop(owner))
	}
}

// P18.5: long ways, by chance
func TestLongWays(t *testing.T) {
	random := rand.New(rand.NewSource(185))
	l := filters()
	for n := range 30 {
		r, m := New(), &model{}
		adds, kinds := []int{10, 14, 18}[n%3], []int{3, 8, len(l)}[n/3%3]
		random.Shuffle(len(l), func(i, j int) { l[i], l[j] = l[j], l[i] })
		for range 400 {
			what := 1
			if k := random.Intn(30); k < adds {
				what = 0
			} else if k == 29 {
				what = 2
			}
			call(t, what, random.Intn(4), l[random.Intn(kinds)], r, m)
			same(t, r, m)
		}
	}
}

// P18.5: all short ways
func TestShortWays(t *testing.T) {
	const kinds, steps = 9, 5
	ways := 1
	for range steps {
		ways *= kinds
	}
	probe := []api.Frame{narrow(5), narrow(6)}
	for way := range ways {
		r, m := New(), &model{}
		for n, w := 0, way; n < steps; n, w = n+1, w/kinds {
			// Two owners, each with two filters, are added and cut; the first owner goes.
			what := w % kinds
			f := []api.Filter{exact(5), {}}[what>>1&1]
			call(t, what>>2, what&1, f, r, m)
			for _, x := range probe {
				find(t, r, x, m.find(x)...)
				who(t, r, x, m.who(x)...)
			}
			length(t, r, len(*m))
		}
	}
}

// P18.5: however the entries are mixed, what is found stands in the order in which they came, and the same is found again
func TestAnyPlace(t *testing.T) {
	random := rand.New(rand.NewSource(186))
	for range 50 {
		r, m := New(), &model{}
		for n := range 300 {
			f := exact(uint32(random.Intn(8)))
			if random.Intn(2) == 0 {
				f = api.Filter{ID: uint32(random.Intn(8)), Mask: uint32(random.Intn(8)), Inv: random.Intn(2) == 0}
			}
			add(t, r, n, f)
			m.add(n, f)
		}
		for id := range 9 {
			l := r.Find(narrow(id))
			if !slices.IsSorted(l) || !slices.Equal(l, m.find(narrow(id))) {
				t.Fatal(id, l)
			}
			find(t, r, narrow(id), l...)
		}
	}
}

// P18.6: what is added, and cut again, leaves all as it was
func TestBack(t *testing.T) {
	for _, already := range []bool{false, true} {
		for _, f := range filters() {
			r, m := New(), &model{}
			for _, other := range filters() {
				if already {
					add(t, r, 1, other)
					add(t, r, 2, other)
					m.add(1, other)
					m.add(2, other)
				}
			}
			for range 3 {
				add(t, r, 3, f)
				cut(t, r, 3, f, api.OK)
				same(t, r, m)
				cut(t, r, 3, f, api.ErrArg)
				same(t, r, m)
			}
			add(t, r, 3, f)
			m.add(3, f)
			same(t, r, m)
		}
	}
}

// P18.6: several of them, cut in whatever order
func TestBackSeveral(t *testing.T) {
	random := rand.New(rand.NewSource(187))
	for range 50 {
		r, m := New(), &model{}
		for range 20 {
			call(t, 0, random.Intn(3), filters()[random.Intn(len(filters()))], r, m)
		}
		l := filters()
		for _, f := range l {
			add(t, r, 9, f)
		}
		random.Shuffle(len(l), func(i, j int) { l[i], l[j] = l[j], l[i] })
		for _, f := range l {
			cut(t, r, 9, f, api.OK)
		}
		same(t, r, m)
	}
}

// Rule 3: what is handed out is the caller's own, and two registers share nothing
func TestOwn(t *testing.T) {
	r, other := New(), New()
	add(t, r, 1, exact(5), api.Filter{})
	add(t, r, 2, exact(5))
	for _, get := range []func(api.Frame) []int{r.Find, r.Who} {
		first := get(narrow(5))
		second := get(narrow(5))
		first[0] = 77
		_ = append(first[:1], 78)
		if slices.Contains(second, 77) || slices.Contains(second, 78) {
			t.Fatal(second)
		}
	}
	find(t, r, narrow(5), 1, 1, 2)
	who(t, r, narrow(5), 1, 2)
	length(t, other, 0)
	find(t, other, narrow(5))
	drop(t, other, 1, 0)
	find(t, r, narrow(5), 1, 1, 2)
}

// What went is not kept, nor a row without entries.
func TestNothingKept(t *testing.T) {
	r := New()
	for n := range 1000 {
		f := exact(uint32(n))
		add(t, r, 1, f, f, api.Filter{})
		cut(t, r, 1, f, api.OK)
		if n%2 == 0 {
			cut(t, r, 1, f, api.OK)
			cut(t, r, 1, api.Filter{}, api.OK)
		} else {
			drop(t, r, 1, 2)
		}
		if len(r.words) != 0 || len(r.others.entries) != 0 {
			t.Fatal(n, len(r.words), len(r.others.entries))
		}
	}
	if n := cap(r.others.entries); n > 64 {
		t.Fatal(n)
	}
}

// P1: many calls end soon, though there are as many entries as may be
func TestGreat(t *testing.T) {
	begun := time.Now()
	for _, odd := range []api.Filter{exact(5), {ID: 5, Mask: 2047}} {
		r := New()
		for n := range 51200 {
			add(t, r, n%100, []api.Filter{exact(uint32(n)), odd}[n&1])
		}
		for range 100 {
			if l := r.Find(narrow(5)); len(l) < 25600 {
				t.Fatal(len(l))
			}
			who(t, r, narrow(5), r.Who(narrow(5))...)
			hits(t, r, narrow(5), 1, 512)
		}
		for n := 51199; n > 25600; n-- {
			cut(t, r, n%100, []api.Filter{exact(uint32(n)), odd}[n&1], api.OK)
		}
		for owner := range 100 {
			r.Drop(owner)
		}
		length(t, r, 0)
	}
	if n := time.Since(begun); n > 20*time.Second {
		t.Error(n)
	}
}

// P2: calls that are refused, and those that ask, change nothing that a later one could tell.
func TestRefusedCallsChangeNothing(t *testing.T) {
	random := rand.New(rand.NewSource(2))
	r, m := New(), &model{}
	for range 300 {
		for _, f := range filters() {
			for owner := range 5 {
				if !slices.Contains(*m, want{owner, f}) {
					cut(t, r, owner, f, api.ErrArg)
				}
			}
		}
		for _, x := range silent() {
			find(t, r, x)
		}
		drop(t, r, 12345, 0)
		same(t, r, m)
		call(t, []int{0, 0, 0, 1, 1, 1, 2}[random.Intn(7)], random.Intn(4), filters()[random.Intn(len(filters()))], r, m)
		same(t, r, m)
	}
}

// The chapter's example.
func TestExample(t *testing.T) {
	r := New()
	add(t, r, 1, exact(5))
	add(t, r, 2, api.Filter{})
	add(t, r, 1, api.Filter{})
	find(t, r, narrow(5), 1, 2, 1)
	who(t, r, narrow(5), 1, 2)
}

// P1: all calls end, at all arguments, and hold together.
func FuzzCallsEnd(f *testing.F) {
	f.Add("aAbBcC", 1, uint32(5), uint32(full), false, 5, 0, 0, "")
	f.Add("aaBbAcdDaC", -1, uint32(0), uint32(0), true, 1, 1, 2, "ab")
	f.Add("\x00\x10\x20\x04\x0c", math.MaxInt, uint32(full), uint32(full), true, -1, 4, 8, "12345678")
	f.Add("\x00\x01\x02\x03\x08", math.MinInt, uint32(256), uint32(1792), false, math.MaxInt, -1, -1, "a")
	f.Fuzz(func(t *testing.T, way string, owner int, word, mask uint32, inv bool, id, flags, n int, data string) {
		r, m := New(), &model{}
		x := api.Frame{ID: id, Flags: flags, Len: n, Data: data}
		l := []api.Filter{{ID: word, Mask: mask, Inv: inv}, {}, exact(word), match.Exact(x)}
		for i, what := range []byte(way) {
			call(t, int(what>>3)%3, owner+int(what>>5), l[what&3], r, m)
			if i < 50 {
				find(t, r, x, m.find(x)...)
			}
		}
		same(t, r, m)
		find(t, r, x, m.find(x)...)
		who(t, r, x, m.who(x)...)
		hits(t, r, x, owner, m.hits(x, owner))
	})
}
