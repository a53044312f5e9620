package serial

import (
	"fmt"
	"math"
	"math/big"
	"math/rand"
	"strings"
	"testing"

	"signalbox/api"
)

const end = "1011111111"

// text is n bytes, unlike each other, that are no runes together.
func text(n int) string {
	l := make([]byte, n)
	for i := range l {
		l[i] = byte(255 - 37*i)
	}
	return string(l)
}

// ids are those at the edges of both widths, and of the parts of a wide one.
func ids() []int {
	return []int{0, 1, 2, 5, 291, 1023, 1024, 1365, 2046, 2047, 2048, 1<<18 - 1, 1 << 18, 1<<18 + 1, 291<<18 | 5, 1 << 28, 0x15555555, 1<<29 - 2, 1<<29 - 1}
}

// payloads are n bytes of several kinds, with long runs and with short ones.
func payloads(n int) []string {
	return []string{text(n), strings.Repeat("\x00", n), strings.Repeat("\xff", n), strings.Repeat("\x0f", n), strings.Repeat("\xf8", n), strings.Repeat("\x83", n), strings.Repeat("U", n), strings.Repeat("é\x80", n)[:n]}
}

// frames are some that are sent bit by bit: each kind, with each length, and each of ids that it may have.
func frames() []api.Frame {
	var all []api.Frame
	for _, id := range ids() {
		for n := range 9 {
			for _, flags := range []int{0, 1, 2, 3} {
				if id > 2047 && flags&1 == 0 {
					continue
				}
				if flags&2 != 0 {
					all = append(all, api.Frame{ID: id, Flags: flags, Len: n})
					continue
				}
				for _, data := range payloads(n) {
					all = append(all, api.Frame{ID: id, Flags: flags, Len: n, Data: data})
				}
			}
		}
	}
	return all
}

// someFrame is one that is sent bit by bit, by chance.
func someFrame(random *rand.Rand) api.Frame {
	f := api.Frame{ID: random.Intn(2048), Flags: random.Intn(4), Len: random.Intn(9)}
	if f.Flags&api.Ext != 0 {
		f.ID = random.Intn(1 << 29)
	}
	if f.Flags&api.Rtr == 0 {
		l := make([]byte, f.Len)
		random.Read(l)
		if random.Intn(3) == 0 {
			l = []byte(payloads(f.Len)[random.Intn(8)])
		}
		f.Data = string(l)
	}
	return f
}

// noFrames are some that are not sent bit by bit: those that may not be, and those of Fd and of Err.
func noFrames() []api.Frame {
	all := []api.Frame{
		{Len: 1},
		{Data: "a"},
		{Len: -1},
		{Len: 9, Data: text(9)},
		{Len: 12, Data: text(12)},
		{Len: 16, Data: text(16)},
		{Len: 15, Data: text(15)},
		{Len: 2, Data: "abc"},
		{Len: 8, Data: text(7)},
		{Len: 1, Data: "é"},
		{Flags: api.Ext, Len: 9, Data: text(9)},
		{Flags: api.Ext, Len: 3, Data: text(2)},
		{Flags: api.Rtr, Len: 1, Data: "a"},
		{Flags: api.Rtr, Data: "a"},
		{Flags: api.Rtr, Len: 9},
		{Flags: api.Rtr, Len: 15},
		{Flags: api.Rtr, Len: 16},
		{Flags: api.Rtr, Len: -1},
		{Flags: api.Ext | api.Rtr, Len: 9},
		{Flags: api.Ext | api.Rtr, Len: 2, Data: "ab"},
		{Len: math.MaxInt},
		{Len: math.MinInt},
		{Flags: api.Rtr, Len: math.MaxInt},
		{Flags: api.Rtr, Len: math.MinInt},
		{Len: 1 << 32},
		{Flags: api.Rtr, Len: 1 << 32},
		// Those of Fd and of Err may be.
		{Flags: api.Fd},
		{ID: 291, Flags: api.Fd, Len: 2, Data: "ab"},
		{ID: 291, Flags: api.Fd, Len: 64, Data: text(64)},
		{ID: 291, Flags: api.Fd | api.Ext, Len: 8, Data: text(8)},
		{ID: 291, Flags: api.Fd | api.Brs | api.Esi, Len: 12, Data: text(12)},
		{Flags: api.Err, Len: 8, Data: text(8)},
		{ID: 4, Flags: api.Err, Len: 8, Data: text(8)},
		{ID: api.Wide, Flags: api.Err, Len: 8, Data: text(8)},
		// None of these may be.
		{Flags: api.Err},
		{Flags: api.Err | api.Ext, Len: 8, Data: text(8)},
		{Flags: api.Err | api.Rtr, Len: 8},
		{Flags: api.Fd | api.Rtr},
		{Flags: api.Fd, Len: 9, Data: text(9)},
		{Flags: api.Brs},
		{Flags: api.Esi},
		{Flags: api.Ext | api.Esi},
		{Flags: api.Each},
		{Flags: 64},
		{Flags: 64 | api.Ext},
		{Flags: 1 << 32},
		{Flags: -1},
		{Flags: math.MinInt},
		{Flags: math.MaxInt},
	}
	for _, id := range []int{-1, -2047, 2048, 1 << 18, 1 << 29, 1 << 32, 1<<32 + 5, math.MaxInt, math.MinInt} {
		all = append(all, api.Frame{ID: id}, api.Frame{ID: id, Flags: api.Rtr, Len: 1})
		if id < 0 || id >= 1<<29 {
			all = append(all, api.Frame{ID: id, Flags: api.Ext}, api.Frame{ID: id, Flags: api.Ext | api.Rtr})
		}
	}
	return all
}

// headOf is a frame's head, told otherwise than by the program.
func headOf(f api.Frame) string {
	s := fmt.Sprintf("0%011b%d00", f.ID, f.Flags>>1&1)
	if f.Flags&api.Ext != 0 {
		id := fmt.Sprintf("%029b", f.ID)
		s = fmt.Sprintf("0%s11%s%d00", id[:11], id[11:], f.Flags>>1&1)
	}
	s += fmt.Sprintf("%04b", f.Len)
	for _, b := range []byte(f.Data) {
		s += fmt.Sprintf("%08b", b)
	}
	return s
}

// checkOf is the 15 bits of the check of bits: what a long division leaves.
func checkOf(s string) string {
	rest, by := new(big.Int), big.NewInt(1<<15|0x4599)
	rest.SetString(s+strings.Repeat("0", 15), 2)
	for n := rest.BitLen(); n > 15; n = rest.BitLen() {
		rest.Xor(rest, new(big.Int).Lsh(by, uint(n-16)))
	}
	return fmt.Sprintf("%015b", rest)
}

// stuffed is bits with bits put in.
func stuffed(s string) string {
	told := ""
	for _, b := range strings.Split(s, "") {
		told += b
		if strings.HasSuffix(told, "00000") {
			told += "1"
		} else if strings.HasSuffix(told, "11111") {
			told += "0"
		}
	}
	return told
}

// sendOf is what goes over the bus, if this is the head.
func sendOf(head string) string {
	return stuffed(head+checkOf(head)) + end
}

// turnAt is s with the bit at the place i turned.
func turnAt(s string, i int) string {
	return s[:i] + string(s[i]^1) + s[i+1:]
}

// mustSend is Send of a frame that is sent.
func mustSend(t *testing.T, f api.Frame) string {
	t.Helper()
	s, err := Send(f)
	if err != api.OK {
		t.Fatalf("Send(%+v): %d", f, err)
	}
	return s
}

// mustRefuse finds a fault, if Hear takes s for a frame.
func mustRefuse(t *testing.T, s string) {
	t.Helper()
	if f, err := Hear(s); f != (api.Frame{}) || err != api.ErrForm {
		t.Errorf("Hear(%q): %+v, %d", s, f, err)
	}
}

// P8.1: Head
func TestHead(t *testing.T) {
	for _, c := range []struct {
		f    api.Frame
		want string
	}{
		{api.Frame{}, "0" + strings.Repeat("0", 18)},
		{api.Frame{ID: 291, Len: 1, Data: "A"}, "0" + "00100100011" + "000" + "0001" + "01000001"},
		{api.Frame{ID: 2047, Len: 2, Data: "\x80\x01"}, "0" + "11111111111" + "000" + "0010" + "10000000" + "00000001"},
		{api.Frame{ID: 1024, Flags: api.Rtr}, "0" + "10000000000" + "100" + "0000"},
		{api.Frame{ID: 1, Flags: api.Rtr, Len: 8}, "0" + "00000000001" + "100" + "1000"},
		{api.Frame{Flags: api.Ext}, "0" + "00000000000" + "11" + "000000000000000000" + "000" + "0000"},
		{api.Frame{ID: 1, Flags: api.Ext, Len: 1, Data: "\xff"}, "0" + "00000000000" + "11" + "000000000000000001" + "000" + "0001" + "11111111"},
		{api.Frame{ID: 1 << 18, Flags: api.Ext}, "0" + "00000000001" + "11" + "000000000000000000" + "000" + "0000"},
		{api.Frame{ID: 1 << 28, Flags: api.Ext}, "0" + "10000000000" + "11" + "000000000000000000" + "000" + "0000"},
		{api.Frame{ID: 1<<18 - 1, Flags: api.Ext | api.Rtr, Len: 3}, "0" + "00000000000" + "11" + "111111111111111111" + "100" + "0011"},
		{api.Frame{ID: 291, Flags: api.Ext}, "0" + "00000000000" + "11" + "000000000100100011" + "000" + "0000"},
		{api.Frame{ID: api.Wide, Flags: api.Ext | api.Rtr}, "0" + "11111111111" + "11" + "111111111111111111" + "100" + "0000"},
		// Data are bytes, not runes.
		{api.Frame{Len: 2, Data: "é"}, "0" + "00000000000" + "000" + "0010" + "11000011" + "10101001"},
		{api.Frame{Len: 8, Data: "\x00\x01\x02\x04\xff\xfe\xfd\x7f"}, "0" + "00000000000" + "000" + "1000" + "00000000" + "00000001" + "00000010" + "00000100" + "11111111" + "11111110" + "11111101" + "01111111"},
	} {
		if got, err := Head(c.f); got != c.want || err != api.OK {
			t.Errorf("Head(%+v): %s, %d; want %s", c.f, got, err, c.want)
		}
	}
	for _, f := range frames() {
		if got, err := Head(f); got != headOf(f) || err != api.OK {
			t.Fatalf("Head(%+v): %s, %d; want %s", f, got, err, headOf(f))
		}
	}
}

// P8.1: Send
func TestSend(t *testing.T) {
	for _, c := range []struct {
		f    api.Frame
		want string
	}{
		// The check of noughts is none, so each five of 34 of them have a 1 behind them.
		{api.Frame{}, strings.Repeat("000001", 6) + "0000" + end},
		{api.Frame{ID: 1}, "0000010000010100000100010001000010011" + end},
		{api.Frame{ID: 291, Len: 1, Data: "A"}, "00010010001100000101010000011101011000111011" + end},
		{api.Frame{ID: 305419896, Flags: api.Ext | api.Rtr, Len: 3}, "0100100011011100010101100111100010000110010100011000001" + end},
	} {
		if got, err := Send(c.f); got != c.want || err != api.OK {
			t.Errorf("Send(%+v): %s, %d; want %s", c.f, got, err, c.want)
		}
	}
	for _, f := range frames() {
		if got, want := mustSend(t, f), sendOf(headOf(f)); got != want {
			t.Fatalf("Send(%+v): %s; want %s", f, got, want)
		}
	}
}

// P8.1: bits that are put in at the end of the check stand before the tail, and what is put in counts.
func TestSendStuffedEnd(t *testing.T) {
	random := rand.New(rand.NewSource(81))
	zeros, ones := 0, 0
	for zeros < 20 || ones < 20 {
		f := someFrame(random)
		bits := headOf(f)
		bits += checkOf(bits)
		s := mustSend(t, f)
		if s != stuffed(bits)+end {
			t.Fatalf("Send(%+v): %s", f, s)
		}
		switch all := strings.TrimSuffix(s, end); {
		case strings.HasSuffix(all, "000001") && all == stuffed(bits[:len(bits)-1])+"01":
			zeros++
		case strings.HasSuffix(all, "111110") && all == stuffed(bits[:len(bits)-1])+"10":
			ones++
		}
	}
}

// P8.1, P8.3: what is refused
func TestRefused(t *testing.T) {
	for _, f := range noFrames() {
		if s, err := Head(f); s != "" || err != api.ErrFrame {
			t.Errorf("Head(%+v): %s, %d", f, s, err)
		}
		if s, err := Send(f); s != "" || err != api.ErrFrame {
			t.Errorf("Send(%+v): %s, %d", f, s, err)
		}
		if n, err := Long(f); n != 0 || err != api.ErrFrame {
			t.Errorf("Long(%+v): %d, %d", f, n, err)
		}
	}
}

// P8.1: all flags, with all lengths
func TestRefusedFlags(t *testing.T) {
	for flags := -70; flags <= 200; flags++ {
		for n := -1; n <= 65; n++ {
			f := api.Frame{ID: 5, Flags: flags, Len: n, Data: text(max(n, 0))}
			if flags&api.Rtr != 0 {
				f.Data = ""
			}
			want, wanted := "", api.ErrFrame
			if flags >= 0 && flags <= 3 && n >= 0 && n <= 8 {
				want, wanted = headOf(f), api.OK
			}
			if got, err := Head(f); got != want || err != wanted {
				t.Fatalf("Head(%+v): %s, %d", f, got, err)
			}
		}
	}
}

// P8.2, P8.4
func TestBack(t *testing.T) {
	all := frames()
	random := rand.New(rand.NewSource(82))
	for range 5000 {
		all = append(all, someFrame(random))
	}
	for _, f := range all {
		if got, err := Hear(mustSend(t, f)); got != f || err != api.OK {
			t.Fatalf("Hear(Send(%+v)): %+v, %d", f, got, err)
		}
		if got, err := Hear(sendOf(headOf(f))); got != f || err != api.OK {
			t.Fatalf("Hear of %+v: %+v, %d", f, got, err)
		}
	}
}

// P8.2: bits whose check is right, and which are stuffed, with a tail, but whose head is none's
func TestHearNoHead(t *testing.T) {
	for _, s := range []string{
		"",
		"0",
		"1",
		// It begins with a 0.
		"1" + "00100100011" + "000" + "0001" + "01000001",
		"1" + "00100100011" + "11" + "000000000100100011" + "000" + "0000",
		// What stands between is 0, 0 of a narrow one, 1, 1 and 0, 0 of a wide one.
		"0" + "00100100011" + "001" + "0001" + "01000001",
		"0" + "00100100011" + "101" + "0001",
		"0" + "00100100011" + "010" + "0001" + "01000001",
		"0" + "00100100011" + "01" + "000000000100100011" + "000" + "0000",
		"0" + "00100100011" + "11" + "000000000100100011" + "001" + "0000",
		"0" + "00100100011" + "11" + "000000000100100011" + "010" + "0000",
		"0" + "00100100011" + "11" + "000000000100100011" + "111" + "0000",
		"0" + "00100100011" + "10" + "000000000100100011" + "000" + "0000",
		// As many bytes of data as it has Len, or none.
		"0" + "00100100011" + "000" + "0001",
		"0" + "00100100011" + "000" + "0001" + "0100000",
		"0" + "00100100011" + "000" + "0001" + "010000010",
		"0" + "00100100011" + "000" + "0001" + "0100000101000001",
		"0" + "00100100011" + "000" + "0000" + "01000001",
		"0" + "00100100011" + "000" + "0000" + "0",
		"0" + "00100100011" + "000" + "000",
		"0" + "00100100011" + "000" + "1000" + strings.Repeat("01000001", 7),
		"0" + "00100100011" + "000" + "1000" + strings.Repeat("01000001", 9),
		"0" + "00100100011" + "100" + "0001" + "01000001",
		"0" + "00100100011" + "100" + "0000" + "01000001",
		"0" + "00100100011" + "11" + "000000000100100011" + "000" + "0001",
		"0" + "00100100011" + "11" + "000000000100100011" + "100" + "0001" + "01000001",
		"0" + "00100100011" + "11" + "000000000100100011" + "000" + "000",
		"0" + "00100100011" + "11" + "000000000100100011",
		"0" + "00100100011" + "11",
		"0" + "00100100011",
	} {
		mustRefuse(t, sendOf(s))
	}
	for n := 9; n <= 15; n++ {
		for _, kind := range []string{"0" + "00100100011" + "000", "0" + "00100100011" + "11" + "000000000100100011" + "000"} {
			mustRefuse(t, sendOf(kind+fmt.Sprintf("%04b", n)+strings.Repeat("01000001", 8)))
			mustRefuse(t, sendOf(kind+fmt.Sprintf("%04b", n)+strings.Repeat("01000001", n)))
			mustRefuse(t, sendOf(kind+fmt.Sprintf("%04b", n)))
			mustRefuse(t, sendOf(kind[:len(kind)-3]+"100"+fmt.Sprintf("%04b", n)))
		}
	}
}

// P8.2: the head, with each way to set each bit that is alike in all frames of its kind, and each Len
func TestHearKinds(t *testing.T) {
	heard := 0
	for marks := range 1 << 6 {
		for n := range 16 {
			for size := range 10 {
				m := fmt.Sprintf("%06b", marks)
				narrow := m[:1] + "00100100011" + m[1:4] + fmt.Sprintf("%04b", n)
				wide := m[:1] + "00100100011" + m[1:3] + "000000000100100011" + m[3:6] + fmt.Sprintf("%04b", n)
				data := strings.Repeat("01000001", size)
				if hearKind(t, narrow+data, m[0] == '0' && m[2:4] == "00" && fits(m[1], n, size)) {
					heard++
				}
				if hearKind(t, wide+data, m[:3] == "011" && m[4:] == "00" && fits(m[3], n, size)) {
					heard++
				}
			}
		}
	}
	// A narrow one is told by three bits and its Rtr; two more are not looked at.
	if heard != 4*18+18 {
		t.Error(heard)
	}
}

// fits tells whether a frame of this Rtr and Len may have data of this size.
func fits(rtr byte, n, size int) bool {
	return n <= 8 && (rtr == '0' && size == n || rtr == '1' && size == 0)
}

// hearKind tells whether a frame of this head is heard, and finds a fault, if that is not as it should be.
func hearKind(t *testing.T, head string, want bool) bool {
	t.Helper()
	f, err := Hear(sendOf(head))
	if want && (err != api.OK || headOf(f) != head) || !want && (err != api.ErrForm || f != api.Frame{}) {
		t.Errorf("%s: %+v, %d", head, f, err)
	}
	return err == api.OK
}

// P8.2: what is wrong around the head: the check, the bits that are put in, the tail, or runes that are no bits
func TestHearBroken(t *testing.T) {
	for _, f := range []api.Frame{{}, {ID: 291, Len: 1, Data: "A"}, {ID: 2047, Flags: api.Ext, Len: 8, Data: text(8)}, {ID: 7, Flags: api.Rtr, Len: 8}, {ID: 1365, Len: 8, Data: "UUUUUUUU"}} {
		head := headOf(f)
		check := checkOf(head)
		all := stuffed(head + check)
		for i := range check {
			mustRefuse(t, stuffed(head+turnAt(check, i))+end)
		}
		for _, s := range []string{
			stuffed(head) + end,
			stuffed(head+check[:14]) + end,
			stuffed(head+check+"0") + end,
			stuffed(head+check+"1") + end,
			stuffed(head+check+strings.Repeat("0", 15)) + end,
			stuffed("0"+head+check) + end,
			stuffed(head + check + end),
			head + check + end + "0",
			all,
			all + end[:9],
			all + end[1:],
			all + end + "0",
			all + end + "1",
			all + end + end,
			all + end + all + end,
			all + strings.Repeat("1", 10),
			all + "0011111111",
			all + "1111111111",
			all + "1001111111",
			all + "1011111110",
			"0" + all + end,
			"1" + all + end,
			all[1:] + end,
			all[:len(all)-1] + end,
			end + all + end,
			end + all,
			" " + all + end,
			all + " " + end,
			all + end + " ",
			all + end + "\n",
			all + end + "\x00",
			all + "é" + end,
			strings.Replace(all+end, "1", "١", 1),
			strings.Replace(all+end, "0", "\xff", 1),
			strings.Replace(all+end, "0", "O", 1),
		} {
			mustRefuse(t, s)
		}
		if head+check != all {
			mustRefuse(t, head+check+end)
		}
		if f != (api.Frame{}) {
			mustRefuse(t, stuffed(check+head)+end)
		}
	}
	for _, s := range []string{"", "0", "1", "2", "é", "\xff", "\x00", end, end + end, strings.Repeat("0", 44), strings.Repeat("1", 44), strings.Repeat("01", 22), strings.Repeat("0", 34) + end, strings.Repeat("000001", 6) + "000" + end} {
		mustRefuse(t, s)
	}
}

// P8.2: a frame whose last bits are five of a kind has one put in ahead of its tail: without it there is none.
func TestHearStuffedEnd(t *testing.T) {
	random := rand.New(rand.NewSource(83))
	for found := 0; found < 30; {
		f := someFrame(random)
		bits := headOf(f)
		bits += checkOf(bits)
		all := stuffed(bits)
		if all == stuffed(bits[:len(bits)-1])+bits[len(bits)-1:] {
			continue
		}
		found++
		mustRefuse(t, all[:len(all)-1]+end)
		mustRefuse(t, turnAt(all, len(all)-1)+end)
	}
}

// P8.2: no short bits are a frame's.
func TestHearShort(t *testing.T) {
	for n := range 13 {
		for bits := range 1 << n {
			s := fmt.Sprintf("%0*b", n, bits)
			if n == 0 {
				s = ""
			}
			mustRefuse(t, s)
			mustRefuse(t, s+end)
		}
	}
	for _, f := range []api.Frame{{ID: 291, Len: 3, Data: "ABC"}, {ID: 291, Flags: api.Ext, Len: 3, Data: "ABC"}} {
		s := mustSend(t, f)
		for i := range s {
			mustRefuse(t, s[:i])
			mustRefuse(t, s[i+1:])
			mustRefuse(t, s[:i]+s[i+1:])
			if i != len(s)-len(end) {
				mustRefuse(t, s[:i]+end)
			}
		}
	}
}

// P8.2: whatever is heard is sent so.
func TestHearIsSent(t *testing.T) {
	random := rand.New(rand.NewSource(84))
	for range 20000 {
		s := mustSend(t, someFrame(random))
		for range 1 + random.Intn(4) {
			s = turnAt(s, random.Intn(len(s)))
		}
		f, err := Hear(s)
		if err != api.OK && (err != api.ErrForm || f != api.Frame{}) || err == api.OK && sendOf(headOf(f)) != s {
			t.Fatal(s, f, err)
		}
	}
}

// P8.3
func TestLong(t *testing.T) {
	if n, err := Long(api.Frame{}); n != 50 || err != api.OK {
		t.Error(n, err)
	}
	for _, f := range frames() {
		if n, err := Long(f); n != len(sendOf(headOf(f))) || err != api.OK {
			t.Fatalf("Long(%+v): %d, %d", f, n, err)
		}
	}
}

// P8.5
func TestApart(t *testing.T) {
	seen := map[string]api.Frame{}
	add := func(f api.Frame) {
		s := mustSend(t, f)
		if g, is := seen[s]; is && g != f {
			t.Fatalf("%+v and %+v: %s", f, g, s)
		}
		seen[s] = f
	}
	for _, f := range frames() {
		add(f)
	}
	for id := range 2048 {
		for n := range 9 {
			add(api.Frame{ID: id, Flags: api.Rtr, Len: n})
			add(api.Frame{ID: id, Len: n, Data: text(n)})
			add(api.Frame{ID: id, Flags: api.Ext, Len: n, Data: text(n)})
			add(api.Frame{ID: id << 18, Flags: api.Ext | api.Rtr, Len: n})
		}
	}
	random := rand.New(rand.NewSource(85))
	for range 20000 {
		add(someFrame(random))
	}
}

// P8.6
func TestShort(t *testing.T) {
	all := frames()
	random := rand.New(rand.NewSource(86))
	for range 20000 {
		all = append(all, someFrame(random))
	}
	least := map[int]bool{}
	for _, f := range all {
		from := 44 + 8*len(f.Data)
		if f.Flags&api.Ext != 0 {
			from += 20
		}
		n, _ := Long(f)
		if n < from || n > from+(from-10)/4 || n != len(mustSend(t, f)) {
			t.Fatalf("Long(%+v): %d, from %d on", f, n, from)
		}
		least[n-from] = true
	}
	if !least[0] {
		t.Error("none has its least bits")
	}
}

// P8.7
func TestTurned(t *testing.T) {
	all := frames()
	random := rand.New(rand.NewSource(87))
	for range 3000 {
		all = append(all, someFrame(random))
	}
	for _, f := range all {
		s := mustSend(t, f)
		for i := range s {
			if g, err := Hear(turnAt(s, i)); g != (api.Frame{}) || err != api.ErrForm {
				t.Fatalf("%+v, turned at %d: %+v, %d", f, i, g, err)
			}
		}
	}
}

// P1: long texts end, too.
func TestLongTexts(t *testing.T) {
	for _, s := range []string{strings.Repeat("01", 1<<20), strings.Repeat("0", 1<<20), strings.Repeat("000001", 1<<18), strings.Repeat("é", 1<<20)} {
		mustRefuse(t, s)
		mustRefuse(t, s+end)
	}
	mustRefuse(t, mustSend(t, api.Frame{})+strings.Repeat("01", 1<<20)+end)
	if s, err := Send(api.Frame{Len: 1 << 20, Data: text(1 << 20)}); s != "" || err != api.ErrFrame {
		t.Error(len(s), err)
	}
}

// What isn't thrown on purpose is not taken for a frame's error.
func TestCaught(t *testing.T) {
	if err := caught(api.ErrForm, func() {}); err != api.OK {
		t.Error(err)
	}
	if err := caught(api.ErrForm, func() { panic(wrong{}) }); err != api.ErrForm {
		t.Error(err)
	}
	defer func() {
		if thrown := recover(); thrown != "other" {
			t.Error(thrown)
		}
	}()
	err := caught(api.ErrForm, func() { panic("other") })
	t.Error(err)
}

// P1, P2: calls that are refused change nothing that a later one could tell.
func TestRefusedCallsChangeNothing(t *testing.T) {
	f := api.Frame{ID: 291, Len: 1, Data: "A"}
	want := sendOf(headOf(f))
	for range 2 {
		if s, err := Head(f); s != headOf(f) || err != api.OK {
			t.Fatal(s, err)
		}
		if s, err := Send(f); s != want || err != api.OK {
			t.Fatal(s, err)
		}
		if n, err := Long(f); n != len(want) || err != api.OK {
			t.Fatal(n, err)
		}
		if g, err := Hear(want); g != f || err != api.OK {
			t.Fatal(g, err)
		}
		for _, g := range noFrames() {
			Head(g)
			Send(g)
			Long(g)
		}
		mustRefuse(t, "")
		mustRefuse(t, want[1:])
		mustRefuse(t, want+"é")
	}
}

// P1: all calls end, at all arguments, and hold together.
func FuzzCallsEnd(f *testing.F) {
	for _, x := range append(frames()[:300], noFrames()...) {
		if len(x.Data) <= 64 {
			f.Add(x.ID, x.Flags, x.Len, x.Data, sendOf(headOf(api.Frame{ID: x.ID & 2047, Data: x.Data})))
		}
	}
	f.Add(0, 0, 0, "", "")
	f.Add(0, 0, 0, "", end)
	f.Add(0, 0, 0, "", "01é"+end)
	f.Fuzz(func(t *testing.T, id, flags, n int, data, s string) {
		for _, err := range []error{sends(api.Frame{ID: id, Flags: flags, Len: n, Data: data}), hears(s), hears(s + end), headed(s)} {
			if err != nil {
				t.Error(err)
			}
		}
	})
}

// isSent tells whether a frame is sent bit by bit.
func isSent(f api.Frame) bool {
	top, size := 2047, f.Len
	if f.Flags&1 != 0 {
		top = 1<<29 - 1
	}
	if f.Flags&2 != 0 {
		size = 0
	}
	return f.Flags >= 0 && f.Flags <= 3 && f.ID >= 0 && f.ID <= top && f.Len >= 0 && f.Len <= 8 && len(f.Data) == size
}

// sends tells what is wrong with Head, Send and Long of f.
func sends(f api.Frame) error {
	head, all, want := "", "", api.ErrFrame
	if isSent(f) {
		head, want = headOf(f), api.OK
		all = sendOf(head)
	}
	if got, err := Head(f); got != head || err != want {
		return fmt.Errorf("Head(%+v): %s, %d", f, got, err)
	}
	if got, err := Send(f); got != all || err != want {
		return fmt.Errorf("Send(%+v): %s, %d", f, got, err)
	}
	if got, err := Long(f); got != len(all) || err != want {
		return fmt.Errorf("Long(%+v): %d, %d", f, got, err)
	}
	if got, err := Hear(all); want == api.OK && (got != f || err != api.OK) {
		return fmt.Errorf("Hear(%s): %+v, %d", all, got, err)
	}
	return nil
}

// hears tells what is wrong with Hear of s.
func hears(s string) error {
	f, err := Hear(s)
	if err == api.OK && isSent(f) && sendOf(headOf(f)) == s || err == api.ErrForm && f == (api.Frame{}) {
		return nil
	}
	return fmt.Errorf("Hear(%q): %+v, %d", s, f, err)
}

// headed tells what is wrong with Hear of what has s as its head.
func headed(s string) error {
	if s == "" || len(s) > 200 || strings.Count(s, "0")+strings.Count(s, "1") != len(s) {
		return nil
	}
	return hears(sendOf(s))
}
