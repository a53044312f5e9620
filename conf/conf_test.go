package conf

import (
	"math"
	"math/rand"
	"slices"
	"testing"

	"signalbox/api"
)

// node is one with these counts that may be, if they may.
func node(tec, rec int) api.Conf {
	return api.Conf{Tec: tec, Rec: rec, Off: tec >= 256}
}

// rights are all that may be known of nodes, but for some of the numbers of idle slots.
func rights() []api.Conf {
	var all []api.Conf
	for tec := range 264 {
		for rec := range 136 {
			all = append(all, node(tec, rec))
			if tec < 256 {
				continue
			}
			for _, idle := range []int{1, 2, 127, 128, 1 << 40, math.MaxInt - 1, math.MaxInt} {
				all = append(all, api.Conf{Tec: tec, Rec: rec, Off: true, Idle: idle})
			}
		}
	}
	return all
}

// edges are some that may not be, one number or mark besides what may be, or far from it.
func edges() []api.Conf {
	return []api.Conf{
		{Tec: -1},
		{Tec: -1, Off: true},
		{Tec: 264, Off: true},
		{Tec: 264},
		{Tec: 271, Off: true},
		{Tec: 1000, Off: true},
		{Tec: math.MaxInt, Off: true},
		{Tec: math.MinInt},
		{Rec: -1},
		{Rec: 136},
		{Rec: 143},
		{Rec: 256},
		{Rec: math.MaxInt},
		{Rec: math.MinInt},
		{Tec: 256, Rec: -1, Off: true},
		{Tec: 256, Rec: 136, Off: true},
		{Off: true},
		{Tec: 1, Rec: 1, Off: true},
		{Tec: 128, Off: true},
		{Tec: 255, Off: true},
		{Tec: 255, Rec: 135, Off: true, Idle: 3},
		{Tec: 256},
		{Tec: 263},
		{Tec: 256, Idle: 1},
		{Idle: 1},
		{Idle: -1},
		{Idle: math.MaxInt},
		{Idle: math.MinInt},
		{Tec: 100, Rec: 100, Idle: 1},
		{Tec: 255, Rec: 135, Idle: 1},
		{Tec: 256, Off: true, Idle: -1},
		{Tec: 263, Rec: 135, Off: true, Idle: -7},
		{Tec: 256, Off: true, Idle: math.MinInt},
		{Tec: -1, Rec: -1, Off: true, Idle: -1},
	}
}

// wrongs are the edges, and all that may be but for a wrong mark or number of idle slots.
func wrongs() []api.Conf {
	all := edges()
	for _, c := range rights() {
		if c.Off {
			c.Off = false
		} else {
			c.Idle = 1
		}
		all = append(all, c)
	}
	return all
}

// stateOf is the state of a node that may be, told otherwise than by the program.
func stateOf(c api.Conf) int {
	if c.Off {
		return 3
	}
	for i, least := range []int{128, 96} {
		if c.Tec >= least || c.Rec >= least {
			return 2 - i
		}
	}
	return 0
}

// happening is what can happen to a node, but for an idle slot.
type happening struct {
	name string
	call func(api.Conf) api.Conf
}

func happenings() []happening {
	return []happening{{"Sent", Sent}, {"Heard", Heard}, {"Failed", Failed}, {"Missed", Missed}}
}

// after is what happens times times to the node, again and again the same.
func after(c api.Conf, call func(api.Conf) api.Conf, times int) api.Conf {
	for range times {
		c = call(c)
	}
	return c
}

// P10.1: Right
func TestRight(t *testing.T) {
	for _, c := range rights() {
		if !Right(c) {
			t.Fatalf("Right(%+v): false", c)
		}
	}
	for _, c := range wrongs() {
		if Right(c) {
			t.Fatalf("Right(%+v): true", c)
		}
	}
}

// P10.1: each of the four numbers and marks counts by itself
func TestRightAlone(t *testing.T) {
	for tec := -300; tec <= 600; tec++ {
		for _, off := range []bool{false, true} {
			want := tec >= 0 && tec <= 255 && !off || tec >= 256 && tec <= 263 && off
			if got := Right(api.Conf{Tec: tec, Off: off}); got != want {
				t.Errorf("Tec %d, Off %v: %v", tec, off, got)
			}
		}
	}
	for rec := -300; rec <= 600; rec++ {
		for _, c := range []api.Conf{{Rec: rec}, {Tec: 255, Rec: rec}, {Tec: 256, Rec: rec, Off: true}} {
			if got := Right(c); got != (rec >= 0 && rec <= 135) {
				t.Errorf("%+v: %v", c, got)
			}
		}
	}
	for idle := -300; idle <= 300; idle++ {
		if got := Right(api.Conf{Idle: idle}); got != (idle == 0) {
			t.Errorf("Idle %d: %v", idle, got)
		}
		if got := Right(api.Conf{Tec: 260, Off: true, Idle: idle}); got != (idle >= 0) {
			t.Errorf("Idle %d of one that is off: %v", idle, got)
		}
	}
}

// P10.1: State
func TestState(t *testing.T) {
	for _, c := range []struct {
		c    api.Conf
		want int
	}{
		{api.Conf{}, 0},
		{node(95, 0), 0},
		{node(0, 95), 0},
		{node(95, 95), 0},
		{node(96, 0), 1},
		{node(0, 96), 1},
		{node(95, 96), 1},
		{node(96, 95), 1},
		{node(127, 127), 1},
		{node(127, 0), 1},
		{node(0, 127), 1},
		{node(128, 0), 2},
		{node(0, 128), 2},
		{node(127, 128), 2},
		{node(128, 127), 2},
		{node(0, 135), 2},
		{node(255, 135), 2},
		{node(255, 0), 2},
		{node(256, 0), 3},
		{node(256, 135), 3},
		{node(263, 0), 3},
		{api.Conf{Tec: 256, Off: true, Idle: 9}, 3},
		{api.Conf{Tec: 263, Rec: 135, Off: true, Idle: math.MaxInt}, 3},
	} {
		if got := State(c.c); got != c.want {
			t.Errorf("State(%+v): %d", c.c, got)
		}
	}
	for _, c := range rights() {
		if got := State(c); got != stateOf(c) {
			t.Fatalf("State(%+v): %d", c, got)
		}
	}
	for _, c := range wrongs() {
		if got := State(c); got != -1 {
			t.Fatalf("State(%+v): %d", c, got)
		}
	}
}

// P10.1: Word
func TestWord(t *testing.T) {
	for state, want := range []string{"active", "warned", "passive", "off"} {
		if got := Word(state); got != want {
			t.Errorf("Word(%d): %q", state, got)
		}
	}
	others := []int{-1, -2, -3, 4, 5, 255, 256, 1 << 32, 1<<32 + 1, 1 << 62, math.MaxInt, math.MinInt, math.MinInt + 3}
	for n := 4; n < 1000; n++ {
		others = append(others, n, -n)
	}
	for _, state := range others {
		if got := Word(state); got != "" {
			t.Errorf("Word(%d): %q", state, got)
		}
	}
}

// P10.2: what happens, at the edges
func TestWhatHappens(t *testing.T) {
	for _, c := range []struct {
		name string
		call func(api.Conf) api.Conf
		c    api.Conf
		want api.Conf
	}{
		{"Sent", Sent, node(0, 0), node(0, 0)},
		{"Sent", Sent, node(0, 7), node(0, 7)},
		{"Sent", Sent, node(1, 7), node(0, 7)},
		{"Sent", Sent, node(96, 0), node(95, 0)},
		{"Sent", Sent, node(128, 135), node(127, 135)},
		{"Sent", Sent, node(255, 0), node(254, 0)},
		{"Sent", Sent, node(256, 0), node(256, 0)},
		{"Heard", Heard, node(0, 0), node(0, 0)},
		{"Heard", Heard, node(9, 0), node(9, 0)},
		{"Heard", Heard, node(9, 1), node(9, 0)},
		{"Heard", Heard, node(0, 119), node(0, 118)},
		{"Heard", Heard, node(0, 120), node(0, 119)},
		{"Heard", Heard, node(0, 127), node(0, 126)},
		{"Heard", Heard, node(0, 128), node(0, 119)},
		{"Heard", Heard, node(200, 128), node(200, 119)},
		{"Heard", Heard, node(200, 120), node(200, 119)},
		{"Heard", Heard, node(0, 135), node(0, 119)},
		{"Heard", Heard, node(256, 135), node(256, 135)},
		{"Failed", Failed, node(0, 0), node(8, 0)},
		{"Failed", Failed, node(0, 135), node(8, 135)},
		{"Failed", Failed, node(120, 1), node(128, 1)},
		{"Failed", Failed, node(247, 0), node(255, 0)},
		{"Failed", Failed, node(248, 0), api.Conf{Tec: 256, Off: true}},
		{"Failed", Failed, node(255, 135), api.Conf{Tec: 263, Rec: 135, Off: true}},
		{"Failed", Failed, node(256, 0), node(256, 0)},
		{"Failed", Failed, node(263, 0), node(263, 0)},
		{"Missed", Missed, node(0, 0), node(0, 8)},
		{"Missed", Missed, node(95, 0), node(95, 8)},
		{"Missed", Missed, node(96, 0), node(96, 8)},
		{"Missed", Missed, node(127, 0), node(127, 8)},
		{"Missed", Missed, node(128, 0), node(128, 1)},
		{"Missed", Missed, node(255, 100), node(255, 101)},
		{"Missed", Missed, node(128, 127), node(128, 128)},
		{"Missed", Missed, node(0, 119), node(0, 127)},
		{"Missed", Missed, node(0, 120), node(0, 128)},
		{"Missed", Missed, node(0, 127), node(0, 135)},
		{"Missed", Missed, node(0, 128), node(0, 129)},
		{"Missed", Missed, node(0, 134), node(0, 135)},
		{"Missed", Missed, node(0, 135), node(0, 135)},
		{"Missed", Missed, node(128, 135), node(128, 135)},
		{"Missed", Missed, node(256, 0), node(256, 0)},
	} {
		if got := c.call(c.c); got != c.want {
			t.Errorf("%s(%+v): %+v", c.name, c.c, got)
		}
	}
}

// P10.2: what happens, to all nodes that may be
func TestWhatHappensToAll(t *testing.T) {
	for _, c := range rights() {
		want := []api.Conf{c, c, c, c}
		if !c.Off {
			want[0].Tec = max(0, c.Tec-1)
			want[1].Rec = max(0, c.Rec-1)
			if c.Rec >= 128 {
				want[1].Rec = 119
			}
			want[2] = node(c.Tec+8, c.Rec)
			if stateOf(c) == 2 {
				want[3].Rec = min(135, c.Rec+1)
			} else {
				want[3].Rec = c.Rec + 8
			}
		}
		for i, h := range happenings() {
			if got := h.call(c); got != want[i] {
				t.Fatalf("%s(%+v): %+v", h.name, c, got)
			}
		}
	}
}

// P10.2: of a node that may not be nothing changes
func TestNothingHappensToWrong(t *testing.T) {
	for _, c := range wrongs() {
		for _, h := range happenings() {
			if got := h.call(c); got != c {
				t.Fatalf("%s(%+v): %+v", h.name, c, got)
			}
		}
	}
}

// P10.3: Idle of a node that is off
func TestIdle(t *testing.T) {
	for _, c := range []struct{ idle, back, want int }{ // want below 0: it is as at first
		{0, 2, 1},
		{0, 3, 1},
		{1, 3, 2},
		{0, 128, 1},
		{126, 128, 127},
		{0, math.MaxInt, 1},
		{1 << 40, 1 << 61, 1<<40 + 1},
		{math.MaxInt - 2, math.MaxInt, math.MaxInt - 1},
		{0, 1, -1},
		{1, 2, -1},
		{2, 3, -1},
		{127, 128, -1},
		{math.MaxInt - 1, math.MaxInt, -1},
		{5, 3, -1},
		{1 << 61, 1, -1},
		// What is below 1 counts as 1.
		{0, 0, -1},
		{0, -1, -1},
		{7, 0, -1},
		{0, math.MinInt, -1},
		{math.MaxInt - 1, math.MinInt, -1},
		// One more than the greatest number isn't below any other one.
		{math.MaxInt, math.MaxInt, -1},
		{math.MaxInt, 1, -1},
	} {
		for _, was := range []api.Conf{{Tec: 256}, {Tec: 259, Rec: 7}, {Tec: 263, Rec: 135}} {
			was.Off, was.Idle = true, c.idle
			want := was
			want.Idle = c.want
			if c.want < 0 {
				want = api.Conf{}
			}
			if got := Idle(was, c.back); got != want {
				t.Errorf("Idle(%+v, %d): %+v", was, c.back, got)
			}
		}
	}
}

// P10.3: of others nothing changes; one that may not be, but is Off, counts idle slots, too
func TestIdleOfOthers(t *testing.T) {
	for _, c := range append(rights(), wrongs()...) {
		for _, back := range []int{math.MinInt, -1, 0, 1, 2, 3, 128, math.MaxInt} {
			want := c
			switch {
			case !c.Off:
			case c.Idle == math.MaxInt || c.Idle+1 >= max(1, back):
				want = api.Conf{}
			default:
				want.Idle++
			}
			if got := Idle(c, back); got != want {
				t.Fatalf("Idle(%+v, %d): %+v", c, back, got)
			}
		}
	}
}

// P10.4: what may be may be behind whatever happens
func TestStaysRight(t *testing.T) {
	for _, c := range rights() {
		for _, h := range happenings() {
			if got := h.call(c); !Right(got) {
				t.Fatalf("%s(%+v): %+v", h.name, c, got)
			}
		}
		for _, back := range []int{math.MinInt, -1, 0, 1, 2, 128, math.MaxInt} {
			if got := Idle(c, back); !Right(got) {
				t.Fatalf("Idle(%+v, %d): %+v", c, back, got)
			}
		}
	}
}

// P10.5: a node gets off by Failed alone
func TestOffByFailedAlone(t *testing.T) {
	for _, c := range rights() {
		if c.Off {
			continue
		}
		for _, h := range happenings() {
			if got := h.call(c); got.Off != (h.name == "Failed" && c.Tec >= 248) {
				t.Fatalf("%s(%+v): %+v", h.name, c, got)
			}
		}
		if got := Idle(c, 1); got.Off {
			t.Fatalf("Idle(%+v, 1): %+v", c, got)
		}
	}
}

// P10.5: from 32 of them on, if nothing else happens
func TestOffFrom32(t *testing.T) {
	for n := range 70 {
		want := 0
		switch {
		case n >= 32:
			want = 3
		case n >= 16:
			want = 2
		case n >= 12:
			want = 1
		}
		got := after(api.Conf{}, Failed, n)
		if State(got) != want || got.Tec != 8*min(n, 32) || got.Off != (n >= 32) {
			t.Errorf("%d times Failed: %+v", n, got)
		}
	}
	for _, h := range happenings() {
		if got := after(api.Conf{}, h.call, 10000); got.Off != (h.name == "Failed") {
			t.Errorf("%s: %+v", h.name, got)
		}
	}
}

// P10.5: it comes back behind as many idle slots as are asked, and not ahead, whatever else happens
func TestBack(t *testing.T) {
	off := after(api.Conf{Rec: 9}, Failed, 32)
	for back := -3; back <= 300; back++ {
		for _, h := range happenings() {
			c := off
			for slot := 1; slot < max(back, 1); slot++ {
				c = h.call(Idle(c, back))
				if State(c) != 3 || c.Idle != slot || c.Tec != 256 || c.Rec != 9 {
					t.Fatalf("behind %d of %d slots: %+v", slot, back, c)
				}
			}
			if c = Idle(c, back); c != (api.Conf{}) {
				t.Fatalf("behind %d slots: %+v", back, c)
			}
		}
	}
}

// P10.6: better, worse
func TestBetterAndWorse(t *testing.T) {
	for _, c := range rights() {
		state := State(c)
		for _, call := range []func(api.Conf) api.Conf{Sent, Heard} {
			if got := call(c); State(got) > state {
				t.Fatalf("%+v gets worse: %+v", c, got)
			}
		}
		for _, call := range []func(api.Conf) api.Conf{Failed, Missed} {
			if got := call(c); State(got) < state {
				t.Fatalf("%+v gets better: %+v", c, got)
			}
		}
	}
}

// model is a node's way, held in two counts and the number of idle slots; below 0 of a node that isn't off.
type model struct{ tec, rec, idle int }

// step is the model behind what happens: 0 Sent, 1 Heard, 2 Failed, 3 Missed, 4 Idle.
func (m model) step(what, back int) model {
	if m.idle >= 0 {
		if what != 4 {
			return m
		}
		if m.idle++; m.idle >= back {
			return model{0, 0, -1}
		}
		return m
	}
	switch what {
	case 0:
		m.tec -= min(m.tec, 1)
	case 1:
		m.rec -= min(m.rec, 1)
		if m.rec > 126 {
			m.rec = 119
		}
	case 2:
		if m.tec += 8; m.tec > 255 {
			m.idle = 0
		}
	case 3:
		if m.tec < 128 && m.rec < 128 {
			m.rec += 7
		}
		m.rec = min(m.rec+1, 135)
	}
	return m
}

// P10.2 to P10.5: long ways of a node, by chance
func TestLongWays(t *testing.T) {
	random := rand.New(rand.NewSource(102))
	for range 300 {
		back := random.Intn(6) + 1
		c, m := api.Conf{}, model{idle: -1}
		often := []int{0, 1, 2, 2, 2, 3, 3, 4}[:2+random.Intn(7)]
		for range 500 {
			what := often[random.Intn(len(often))]
			m = m.step(what, back)
			if what == 4 {
				c = Idle(c, back)
			} else {
				c = happenings()[what].call(c)
			}
			want := api.Conf{Tec: m.tec, Rec: m.rec, Off: m.idle >= 0, Idle: max(m.idle, 0)}
			if c != want || !Right(c) {
				t.Fatalf("behind %d: %+v, not %+v", what, c, want)
			}
		}
	}
}

// The chapter's example.
func TestExample(t *testing.T) {
	if got := Word(State(after(api.Conf{}, Failed, 16))); got != "passive" {
		t.Error(got)
	}
	if got := Word(State(after(api.Conf{}, Failed, 32))); got != "off" {
		t.Error(got)
	}
}

// P1, P2: calls of what may not be change nothing that a later one could tell.
func TestRefusedCallsChangeNothing(t *testing.T) {
	all := func() []api.Conf {
		var l []api.Conf
		for _, h := range happenings() {
			l = append(l, h.call(node(127, 127)))
		}
		return append(l, Idle(node(256, 3), 2), api.Conf{Tec: State(node(96, 0)), Rec: len(Word(2))})
	}
	first := all()
	for _, c := range edges() {
		Right(c)
		State(c)
		for _, h := range happenings() {
			h.call(c)
		}
		Idle(c, 0)
		Word(c.Tec)
		if got := all(); !slices.Equal(got, first) {
			t.Fatal(got)
		}
	}
}

// P1: all calls end, at all arguments, and hold together.
func FuzzCallsEnd(f *testing.F) {
	for _, c := range append(edges(), node(0, 0), node(95, 127), node(128, 135), node(255, 0), node(256, 135)) {
		f.Add(c.Tec, c.Rec, c.Off, c.Idle, 3)
	}
	f.Add(256, 0, true, math.MaxInt, math.MaxInt)
	f.Add(256, 0, true, 0, math.MinInt)
	f.Fuzz(func(t *testing.T, tec, rec int, off bool, idle, back int) {
		c := api.Conf{Tec: tec, Rec: rec, Off: off, Idle: idle}
		right, state := Right(c), State(c)
		if right != (state >= 0) || right && state != stateOf(c) || state < -1 || state > 3 {
			t.Errorf("%+v: %v, %d", c, right, state)
		}
		if (Word(state) != "") != right {
			t.Errorf("%+v: %q", c, Word(state))
		}
		for _, h := range happenings() {
			got := h.call(c)
			if right != Right(got) || (off || !right) && got != c {
				t.Errorf("%s(%+v): %+v", h.name, c, got)
			}
		}
		got := Idle(c, back)
		if !off && got != c || off && got == c || right && !Right(got) {
			t.Errorf("Idle(%+v, %d): %+v", c, back, got)
		}
		Word(tec)
	})
}
