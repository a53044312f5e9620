package wire

import (
	"encoding/binary"
	"math"
	"slices"
	"strings"
	"testing"

	"signalbox/api"
	"signalbox/frame"
)

// text is n bytes, none of them 0, the first ones unlike each other.
func text(n int) string {
	out := make([]byte, n)
	for i := range out {
		out[i] = byte(255 - i)
	}
	return string(out)
}

func zeros(n int) string { return strings.Repeat("\x00", n) }

// frames are frames that may be: all flags, lengths of all codes, IDs at the edges of both widths, data without a 0, with 0 alone, and with a 0 at the end.
func frames() []api.Frame {
	var all []api.Frame
	for flags := range 64 {
		for _, id := range []int{0, 1, 255, 256, 291, 2047, 2048, 0x01020304, 1 << 28, api.Wide} {
			for n := range 65 {
				datas := slices.Compact([]string{text(n), text(max(n-1, 0)) + zeros(min(n, 1)), zeros(n)})
				if flags&api.Rtr != 0 {
					datas = []string{""}
				}
				for _, data := range datas {
					f := api.Frame{ID: id, Flags: flags, Len: n, Data: data}
					if frame.Right(f) == api.OK {
						all = append(all, f)
					}
				}
			}
		}
	}
	return all
}

// few are some frames, of each kind one.
func few() []api.Frame {
	return []api.Frame{
		{},
		{ID: 1, Len: 1, Data: "A"},
		{ID: 2047, Len: 8, Data: text(8)},
		{ID: 0x01020304, Flags: api.Ext, Len: 3, Data: "\x00\xc3\x00"},
		{ID: 291, Flags: api.Rtr, Len: 8},
		{ID: api.Wide, Flags: api.Ext | api.Rtr, Len: 2},
		{ID: 2048, Flags: api.Err, Len: 8, Data: text(8)},
		{ID: 291, Flags: api.Fd},
		{ID: 291, Flags: api.Fd, Len: 12, Data: text(12)},
		{ID: 5, Flags: api.Fd | api.Brs, Len: 8, Data: text(8)},
		{ID: api.Wide, Flags: api.Fd | api.Ext | api.Esi, Len: 48, Data: text(48)},
		{ID: api.Wide, Flags: api.Fd | api.Ext | api.Brs | api.Esi, Len: 64, Data: text(64)},
	}
}

// wrongFrames are some that may not be.
func wrongFrames() []api.Frame {
	return []api.Frame{
		{ID: -1},
		{ID: 2048},
		{ID: 1 << 29, Flags: api.Ext},
		{ID: 1<<32 + 1, Len: 1, Data: "A"},
		{ID: math.MinInt},
		{ID: math.MaxInt, Flags: api.Ext},
		{Len: 1},
		{Len: -1},
		{Data: "A"},
		{Len: 256},
		{Len: math.MaxInt},
		{Len: math.MinInt},
		{Len: 9, Data: text(9)},
		{Len: 8, Data: text(9)},
		{Flags: api.Rtr, Len: 1, Data: "A"},
		{Flags: api.Rtr, Len: 9},
		{Flags: api.Err},
		{Flags: api.Err, Len: 7, Data: text(7)},
		{Flags: api.Err | api.Ext, Len: 8, Data: text(8)},
		{Flags: api.Err | api.Rtr, Len: 8},
		{Flags: api.Err | api.Fd, Len: 8, Data: text(8)},
		{Flags: api.Fd | api.Rtr},
		{Flags: api.Fd, Len: 9, Data: text(9)},
		{Flags: api.Fd, Len: 65, Data: text(65)},
		{Flags: api.Fd, Len: 264, Data: text(264)},
		{Flags: api.Fd, Len: 12, Data: text(11)},
		{Flags: api.Brs},
		{Flags: api.Esi, Len: 1, Data: "A"},
		{Flags: api.Each},
		{Flags: 64},
		{Flags: -1},
		{Flags: math.MinInt},
	}
}

// bytesOf is a frame's bytes as the chapter lists them, to be told otherwise than by the program.
func bytesOf(f api.Frame) string {
	out := make([]byte, 16)
	if f.Flags&8 != 0 {
		out = make([]byte, 72)
		out[5] += 4
	}
	if f.Flags&16 != 0 {
		out[5]++
	}
	if f.Flags&32 != 0 {
		out[5] += 2
	}
	word := uint32(f.ID)
	for flag, bit := range map[int]uint32{1: 1 << 31, 2: 1 << 30, 4: 1 << 29} {
		if f.Flags&flag != 0 {
			word += bit
		}
	}
	binary.LittleEndian.PutUint32(out, word)
	out[4] = byte(f.Len)
	copy(out[8:], f.Data)
	return string(out)
}

// frameOf is the frame whose bytes these are, and true, asked one by one of what the chapters 2 and 3 say.
func frameOf(s string) (api.Frame, bool) {
	none := api.Frame{}
	if len(s) != 16 && len(s) != 72 {
		return none, false
	}
	fd, brs, esi := s[5]&4 != 0, s[5]&1 != 0, s[5]&2 != 0
	ext, rtr, err := s[3]&0x80 != 0, s[3]&0x40 != 0, s[3]&0x20 != 0
	id := int(s[0]) + int(s[1])<<8 + int(s[2])<<16 + int(s[3]&0x1F)<<24
	n := int(s[4])
	if fd != (len(s) == 72) || s[5] > 7 || s[6] != 0 || s[7] != 0 {
		return none, false
	}
	if !fd && (brs || esi || n > 8) || fd && (rtr || err) || err && (ext || rtr || n != 8) || !ext && !err && id > 2047 {
		return none, false
	}
	if fd && !slices.Contains([]int{0, 1, 2, 3, 4, 5, 6, 7, 8, 12, 16, 20, 24, 32, 48, 64}, n) {
		return none, false
	}
	used := n
	if rtr {
		used = 0
	}
	if strings.Trim(s[8+used:], "\x00") != "" {
		return none, false
	}
	f := api.Frame{ID: id, Len: n, Data: s[8 : 8+used]}
	for i, is := range []bool{ext, rtr, err, fd, brs, esi} {
		if is {
			f.Flags |= 1 << i
		}
	}
	return f, true
}

// P3.1
func TestEncode(t *testing.T) {
	cases := []struct {
		f    api.Frame
		want string
	}{
		{api.Frame{}, zeros(16)},
		{api.Frame{ID: 1, Len: 1, Data: "A"}, "\x01\x00\x00\x00\x01\x00\x00\x00A" + zeros(7)},
		{api.Frame{ID: 258, Len: 8, Data: "abcdefgh"}, "\x02\x01\x00\x00\x08\x00\x00\x00abcdefgh"},
		{api.Frame{ID: 2047, Len: 2, Data: "\x00\xff"}, "\xff\x07\x00\x00\x02\x00\x00\x00\x00\xff" + zeros(6)},
		{api.Frame{ID: 0x01020304, Flags: api.Ext, Len: 3, Data: "abc"}, "\x04\x03\x02\x81\x03\x00\x00\x00abc" + zeros(5)},
		{api.Frame{ID: 291, Flags: api.Rtr, Len: 8}, "\x23\x01\x00\x40\x08\x00\x00\x00" + zeros(8)},
		{api.Frame{ID: 291, Flags: api.Rtr}, "\x23\x01\x00\x40\x00\x00\x00\x00" + zeros(8)},
		{api.Frame{ID: api.Wide, Flags: api.Ext | api.Rtr, Len: 1}, "\xff\xff\xff\xdf\x01\x00\x00\x00" + zeros(8)},
		{api.Frame{ID: 64, Flags: api.Err, Len: 8, Data: "abcdefgh"}, "\x40\x00\x00\x20\x08\x00\x00\x00abcdefgh"},
		{api.Frame{ID: api.Wide, Flags: api.Err, Len: 8, Data: zeros(8)}, "\xff\xff\xff\x3f\x08\x00\x00\x00" + zeros(8)},
		{api.Frame{ID: 1, Flags: api.Fd}, "\x01\x00\x00\x00\x00\x04\x00\x00" + zeros(64)},
		{api.Frame{ID: 1, Flags: api.Fd | api.Brs, Len: 1, Data: "A"}, "\x01\x00\x00\x00\x01\x05\x00\x00A" + zeros(63)},
		{api.Frame{ID: 1, Flags: api.Fd | api.Esi, Len: 12, Data: text(12)}, "\x01\x00\x00\x00\x0c\x06\x00\x00" + text(12) + zeros(52)},
		{api.Frame{ID: 2048, Flags: api.Fd | api.Ext | api.Brs | api.Esi, Len: 64, Data: text(64)}, "\x00\x08\x00\x80\x40\x07\x00\x00" + text(64)},
	}
	for _, c := range cases {
		if got, err := Encode(c.f); got != c.want || err != api.OK {
			t.Errorf("Encode(%+v) = %x, %d, want %x", c.f, got, err, c.want)
		}
	}
	for _, f := range frames() {
		if got, err := Encode(f); got != bytesOf(f) || err != api.OK {
			t.Fatalf("Encode(%+v) = %x, %d, want %x", f, got, err, bytesOf(f))
		}
	}
}

// P3.1, P1
func TestEncodeRefuses(t *testing.T) {
	for _, f := range wrongFrames() {
		if got, err := Encode(f); got != "" || err != api.ErrFrame {
			t.Errorf("Encode(%+v) = %x, %d", f, got, err)
		}
	}
}

// P3.2
func TestDecode(t *testing.T) {
	cases := []struct {
		s    string
		want api.Frame
	}{
		{zeros(16), api.Frame{}},
		{"\x01\x00\x00\x00\x01\x00\x00\x00A" + zeros(7), api.Frame{ID: 1, Len: 1, Data: "A"}},
		{"\xff\x07\x00\x00\x02\x00\x00\x00" + zeros(8), api.Frame{ID: 2047, Len: 2, Data: zeros(2)}},
		{"\x04\x03\x02\x81\x08\x00\x00\x00abcdefgh", api.Frame{ID: 0x01020304, Flags: api.Ext, Len: 8, Data: "abcdefgh"}},
		{"\x23\x01\x00\x40\x08\x00\x00\x00" + zeros(8), api.Frame{ID: 291, Flags: api.Rtr, Len: 8}},
		{"\xff\xff\xff\xdf\x00\x00\x00\x00" + zeros(8), api.Frame{ID: api.Wide, Flags: api.Ext | api.Rtr}},
		{"\x00\x08\x00\x20\x08\x00\x00\x00abcdefgh", api.Frame{ID: 2048, Flags: api.Err, Len: 8, Data: "abcdefgh"}},
		{"\x01\x00\x00\x00\x00\x04\x00\x00" + zeros(64), api.Frame{ID: 1, Flags: api.Fd}},
		{"\x01\x00\x00\x00\x08\x05\x00\x00abcdefgh" + zeros(56), api.Frame{ID: 1, Flags: api.Fd | api.Brs, Len: 8, Data: "abcdefgh"}},
		{"\x01\x00\x00\x80\x0c\x06\x00\x00" + text(12) + zeros(52), api.Frame{ID: 1, Flags: api.Fd | api.Ext | api.Esi, Len: 12, Data: text(12)}},
		{"\xff\x07\x00\x00\x40\x07\x00\x00" + text(64), api.Frame{ID: 2047, Flags: api.Fd | api.Brs | api.Esi, Len: 64, Data: text(64)}},
	}
	for _, c := range cases {
		if got, err := Decode(c.s); got != c.want || err != api.OK {
			t.Errorf("Decode(%x) = %+v, %d, want %+v", c.s, got, err, c.want)
		}
	}
}

// wrongBytes are those of no frame.
func wrongBytes() []string {
	const head = "\x01\x00\x00\x00"
	return []string{
		"", zeros(1), zeros(5), zeros(6), zeros(8), zeros(15), zeros(17), zeros(32), zeros(72), text(16), text(72), zeros(1 << 16),
		head + "\x01\x00\x00\x00A" + zeros(6),          // one byte short
		head + "\x01\x00\x00\x00A" + zeros(8),          // one too many
		head + "\x01\x00\x00\x00A" + zeros(63),         // as many as of Fd
		head + "\x01\x04\x00\x00A" + zeros(7),          // of Fd as few as of others
		head + "\x01\x04\x00\x00A" + zeros(62),         // of Fd one short
		head + "\x01\x04\x00\x00A" + zeros(64),         // of Fd one too many
		head + "\x01\x00\x00\x00AB" + zeros(6),         // a byte behind the data
		head + "\x01\x00\x00\x00A" + zeros(6) + "\x01", // at the very end
		head + "\x40\x00\x00\x00" + zeros(8),
		head + "\x09\x00\x00\x00" + zeros(8),
		head + "\xff\x00\x00\x00" + zeros(8),
		head + "\x00\x01\x00\x00" + zeros(8), // Brs, Esi without Fd
		head + "\x00\x02\x00\x00" + zeros(8),
		head + "\x00\x03\x00\x00" + zeros(8),
		head + "\x00\x08\x00\x00" + zeros(8), // no marks
		head + "\x00\x80\x00\x00" + zeros(8),
		head + "\x00\x0c\x00\x00" + zeros(64),
		head + "\x00\x84\x00\x00" + zeros(64),
		head + "\x00\x00\x01\x00" + zeros(8),
		head + "\x00\x00\x00\x01" + zeros(8),
		head + "\x00\x04\x80\x00" + zeros(64),
		head + "\x00\x04\x00\x80" + zeros(64),
		head + "\x09\x04\x00\x00" + zeros(64), // no length of Fd
		head + "\x3f\x04\x00\x00" + zeros(64),
		head + "\x41\x04\x00\x00" + zeros(64),
		head + "\xff\x04\x00\x00" + zeros(64),
		head + "\x0c\x04\x00\x00" + text(13) + zeros(51),
		"\x00\x08\x00\x00\x00\x00\x00\x00" + zeros(8), // 2048, narrow
		"\x00\x08\x00\x00\x00\x04\x00\x00" + zeros(64),
		"\xff\xff\xff\x1f\x00\x00\x00\x00" + zeros(8),
		"\x00\x08\x00\x40\x00\x00\x00\x00" + zeros(8),
		"\x01\x00\x00\x40\x01\x00\x00\x00A" + zeros(7), // it asks, and has data
		"\x01\x00\x00\x40\x00\x00\x00\x00" + zeros(7) + "A",
		"\x01\x00\x00\x40\x09\x00\x00\x00" + zeros(8),
		"\x01\x00\x00\x40\x00\x04\x00\x00" + zeros(64), // Rtr of Fd
		"\x01\x00\x00\xc0\x08\x04\x00\x00" + zeros(64),
		"\x01\x00\x00\x20\x00\x00\x00\x00" + zeros(8), // Err, and less than 8 bytes
		"\x01\x00\x00\x20\x07\x00\x00\x00" + zeros(8),
		"\x01\x00\x00\x20\x09\x00\x00\x00" + zeros(8),
		"\x01\x00\x00\x20\x08\x01\x00\x00" + zeros(8),
		"\x01\x00\x00\x20\x08\x04\x00\x00" + zeros(64),
		"\x01\x00\x00\xa0\x08\x00\x00\x00" + zeros(8),
		"\x01\x00\x00\x60\x08\x00\x00\x00" + zeros(8),
		"\x01\x00\x00\xe0\x08\x00\x00\x00" + zeros(8),
		"\xff\xff\xff\xff\xff\xff\xff\xff" + zeros(64),
	}
}

// P3.2, P1
func TestDecodeRefuses(t *testing.T) {
	for _, s := range wrongBytes() {
		if got, err := Decode(s); got != (api.Frame{}) || err != api.ErrForm {
			t.Errorf("Decode(%x) = %+v, %d", s, got, err)
		}
	}
}

// decodes holds what Decode answers against frameOf.
func decodes(t *testing.T, s string) {
	t.Helper()
	want, is := frameOf(s)
	wantErr := api.OK
	if !is {
		wantErr = api.ErrForm
	}
	if got, err := Decode(s); got != want || err != wantErr {
		t.Fatalf("Decode(%x) = %+v, %d, want %+v, %d", s, got, err, want, wantErr)
	}
}

// P3.2: of some frames' bytes each byte is turned into each other one.
func TestDecodeTurned(t *testing.T) {
	for _, f := range few() {
		row := []byte(bytesOf(f))
		for i, was := range row {
			for b := range 256 {
				row[i] = byte(b)
				decodes(t, string(row))
			}
			row[i] = was
		}
	}
}

// P3.2: all words' highest bits, lengths and marks, with bytes of data up to each place, in each length.
func TestDecodeByHeads(t *testing.T) {
	for high := range 8 {
		for _, id := range []string{"\x00\x00\x00", "\xff\x07\x00", "\x00\x08\x00"} {
			for n := range 256 {
				for marks := range 17 {
					head := id + string([]byte{byte(high << 5), byte(n), byte(marks), 0, 0})
					for _, data := range []int{0, 1, 8} {
						decodes(t, head+text(data)+zeros(8-data))
						decodes(t, head+text(data)+zeros(64-data))
					}
				}
			}
		}
	}
}

// P3.2: bytes that are cut, and that go on.
func TestDecodeCut(t *testing.T) {
	for _, f := range few() {
		s := bytesOf(f)
		for n := range len(s) {
			decodes(t, s[:n])
			decodes(t, s[n+1:])
		}
		for n := range 80 {
			decodes(t, s+zeros(n))
		}
		decodes(t, s+s)
	}
}

// P3.3
func TestLong(t *testing.T) {
	for n := range 100 {
		want := 16
		if n < 6 {
			want = 0
		}
		if got := Long(zeros(n)); got != want {
			t.Errorf("Long of %d bytes 0 = %d, want %d", n, got, want)
		}
		if n > 5 {
			want = 72
		}
		if got := Long(strings.Repeat("\xff", n)); got != want {
			t.Errorf("Long of %d bytes 255 = %d, want %d", n, got, want)
		}
	}
	for b := range 256 {
		want := 16
		if b/4%2 == 1 {
			want = 72
		}
		six := "\xff\x00\xff\x04\xfb" + string([]byte{byte(b)})
		for _, s := range []string{six, six + "\x04\xff", six + zeros(66), six + text(200)} {
			if got := Long(s); got != want {
				t.Errorf("Long(%x) = %d, want %d", s, got, want)
			}
		}
	}
}

// P3.3: of a frame's bytes, Long tells how many they are.
func TestLongOfFrames(t *testing.T) {
	for _, f := range frames() {
		if s, _ := Encode(f); Long(s) != len(s) || Long(s[:6]) != len(s) {
			t.Fatalf("Long of %+v = %d, it has %d", f, Long(s), len(s))
		}
	}
}

// P3.4
func TestPack(t *testing.T) {
	if got, at, err := Pack(); got != "" || at != 0 || err != api.OK {
		t.Error(got, at, err)
	}
	if got, at, err := Pack([]api.Frame{}...); got != "" || at != 0 || err != api.OK {
		t.Error(got, at, err)
	}
	want := ""
	for n, f := range few() {
		want += bytesOf(f)
		l := few()[:n+1]
		if got, at, err := Pack(l...); got != want || at != 0 || err != api.OK {
			t.Errorf("Pack(%+v) = %x, %d, %d", l, got, at, err)
		}
		if !slices.Equal(l, few()[:n+1]) {
			t.Errorf("Pack has changed what it was given: %+v", l)
		}
	}
	one := api.Frame{ID: 1, Len: 1, Data: "A"}
	if got, at, err := Pack(one, one); got != bytesOf(one)+bytesOf(one) || at != 0 || err != api.OK {
		t.Error(got, at, err)
	}
}

// P3.4, P1: the first frame that may not be is told, wherever it stands and whatever stands behind it.
func TestPackRefuses(t *testing.T) {
	for _, wrong := range wrongFrames() {
		for n := range len(few()) + 1 {
			l := slices.Insert(few(), n, wrong)
			if got, at, err := Pack(l...); got != "" || at != n || err != api.ErrFrame {
				t.Errorf("Pack with %+v at %d = %x, %d, %d", wrong, n, got, at, err)
			}
			l = append(l, wrong)
			if got, at, err := Pack(l...); got != "" || at != n || err != api.ErrFrame {
				t.Errorf("Pack with %+v at %d and at the end = %x, %d, %d", wrong, n, got, at, err)
			}
		}
	}
}

// P3.5
func TestUnpack(t *testing.T) {
	if got, at, err := Unpack(""); len(got) != 0 || at != 0 || err != api.OK {
		t.Error(got, at, err)
	}
	s := ""
	for n, f := range few() {
		s += bytesOf(f)
		if got, at, err := Unpack(s); !slices.Equal(got, few()[:n+1]) || at != 0 || err != api.OK {
			t.Errorf("Unpack(%x) = %+v, %d, %d", s, got, at, err)
		}
	}
	got, at, err := Unpack(zeros(160))
	if !slices.Equal(got, make([]api.Frame, 10)) || at != 0 || err != api.OK {
		t.Error(got, at, err)
	}
}

// unpackRefuses asks for the place where Unpack can't go on.
func unpackRefuses(t *testing.T, s string, place int) {
	t.Helper()
	if got, at, err := Unpack(s); len(got) != 0 || at != place || err != api.ErrForm {
		t.Errorf("Unpack(%x) = %+v, %d, %d, want the place %d", s, got, at, err, place)
	}
}

// P3.5, P1: of rows of bytes that are cut, or go on, the place is where the last frame begins.
func TestUnpackRefuses(t *testing.T) {
	small, great := bytesOf(few()[1]), bytesOf(few()[8])
	for n := 1; n < 16; n++ {
		unpackRefuses(t, small[:n], 0)
		unpackRefuses(t, small+small[:n], 16)
		unpackRefuses(t, great+small[:n], 72)
		unpackRefuses(t, small+great+small[:n], 88)
		unpackRefuses(t, zeros(n), 0)
		unpackRefuses(t, small+zeros(n), 16)
	}
	for n := 1; n < 72; n++ {
		unpackRefuses(t, great[:n], 0)
		unpackRefuses(t, small+great[:n], 16)
	}
	// Of two places where none can be read, the first one.
	bad := "\x01\x00\x00\x00\x09\x00\x00\x00" + zeros(8)
	unpackRefuses(t, bad, 0)
	unpackRefuses(t, bad+small, 0)
	unpackRefuses(t, small+bad+small+bad, 16)
	unpackRefuses(t, great+small+bad+"\x00", 88)
	// A mark of Fd where none is takes 72 bytes, whatever stands in them.
	unpackRefuses(t, small+"\x01\x00\x00\x00\x01\x04\x00\x00A"+zeros(7)+great, 16)
	unpackRefuses(t, small+"\x01\x00\x00\x00\x01\x04\x00\x00A"+zeros(7), 16)
}

// framesOf is the frames whose bytes these are, and -1; or none, and the first place where none can be read, as the chapter says it.
func framesOf(s string) ([]api.Frame, int) {
	var all []api.Frame
	for at := 0; at < len(s); {
		size := 16
		if at+5 < len(s) && s[at+5]/4%2 == 1 {
			size = 72
		}
		if at+size > len(s) {
			return nil, at
		}
		f, is := frameOf(s[at : at+size])
		if !is {
			return nil, at
		}
		all = append(all, f)
		at += size
	}
	return all, -1
}

// unpacks holds what Unpack answers against framesOf.
func unpacks(t *testing.T, s string) {
	t.Helper()
	want, place := framesOf(s)
	wantErr := api.ErrForm
	if place < 0 {
		place, wantErr = 0, api.OK
	}
	if got, at, err := Unpack(s); !slices.Equal(got, want) || at != place || err != wantErr {
		t.Fatalf("Unpack(%x) = %+v, %d, %d, want %+v, %d, %d", s, got, at, err, want, place, wantErr)
	}
}

// P3.5: bytes of no frame, at the beginning, at the end and between.
func TestUnpackWrongBytes(t *testing.T) {
	ahead, _, _ := Pack(few()...)
	for _, s := range wrongBytes() {
		unpacks(t, s)
		unpacks(t, s+ahead)
		unpacks(t, ahead+s)
		unpacks(t, ahead+s+ahead)
	}
}

// P3.5: of some frames' bytes, one behind the other, each bit is turned, each end is cut away.
func TestUnpackTurned(t *testing.T) {
	s, _, _ := Pack(few()...)
	row := []byte(s)
	for bit := range 8 * len(row) {
		row[bit/8] ^= 1 << (bit % 8)
		unpacks(t, string(row))
		row[bit/8] ^= 1 << (bit % 8)
	}
	for n := range len(s) {
		unpacks(t, s[:n])
		unpacks(t, s[n:])
	}
}

// P3.6
func TestDecodeLeadsBackFromEncode(t *testing.T) {
	for _, f := range frames() {
		s, _ := Encode(f)
		if got, err := Decode(s); got != f || err != api.OK {
			t.Fatalf("Decode of Encode(%+v) = %+v, %d", f, got, err)
		}
	}
}

// P3.6: whatever Decode takes, of some frames' bytes with one bit turned, Encode leads back to.
func TestEncodeLeadsBackFromDecode(t *testing.T) {
	for _, f := range frames() {
		row := []byte(bytesOf(f))
		for bit := range 8 * len(row) {
			row[bit/8] ^= 1 << (bit % 8)
			got, err := Decode(string(row))
			if s, e := Encode(got); err == api.OK && (s != string(row) || e != api.OK) {
				t.Fatalf("Encode of Decode(%x) = %x, %d", row, s, e)
			}
			row[bit/8] ^= 1 << (bit % 8)
		}
	}
}

// P3.6
func TestUnpackLeadsBackFromPack(t *testing.T) {
	all := frames()
	s, _, err := Pack(all...)
	if err != api.OK {
		t.Fatal(err)
	}
	got, at, err := Unpack(s)
	if !slices.Equal(got, all) || at != 0 || err != api.OK {
		t.Fatalf("Unpack of Pack of %d frames = %d frames, %d, %d", len(all), len(got), at, err)
	}
	if back, at, err := Pack(got...); back != s || at != 0 || err != api.OK {
		t.Fatalf("Pack of Unpack of %d bytes = %d bytes, %d, %d", len(s), len(back), at, err)
	}
}

// P3.6: of all rows of up to three parts, Pack leads back from what Unpack takes.
func TestPackLeadsBackFromUnpack(t *testing.T) {
	parts := []string{"\x00", "\x00\x08\x00\x00\x00\x00\x00\x00" + zeros(8), bytesOf(few()[1])[:8]}
	for _, f := range few() {
		parts = append(parts, bytesOf(f))
	}
	last := []string{""}
	for range 3 {
		var next []string
		for _, s := range last {
			for _, p := range parts {
				next = append(next, s+p)
			}
		}
		for _, s := range next {
			unpacks(t, s)
			l, _, err := Unpack(s)
			if back, _, _ := Pack(l...); err == api.OK && back != s {
				t.Fatalf("Pack of Unpack(%x) = %x", s, back)
			}
		}
		last = next
	}
}

// P3.7
func TestNoTwoFramesHaveTheSameBytes(t *testing.T) {
	seen := map[string]api.Frame{}
	all := frames()
	for _, f := range all {
		s, _ := Encode(f)
		if g, is := seen[s]; is && g != f {
			t.Fatalf("%+v and %+v are both %x", f, g, s)
		}
		seen[s] = f
	}
	if len(seen) != len(all) {
		t.Errorf("%d frames have %d rows of bytes", len(all), len(seen))
	}
}

// What is handed out is the caller's own.
func TestListsAreNew(t *testing.T) {
	s, _, _ := Pack(few()...)
	one, _, _ := Unpack(s)
	two, _, _ := Unpack(s)
	for i := range one {
		one[i] = api.Frame{ID: 7}
	}
	if !slices.Equal(two, few()) {
		t.Errorf("a list has changed with another one: %+v", two)
	}
}

// P1, P2: a refused call leaves what later calls answer as it was.
func TestRefusedCallsChangeNothing(t *testing.T) {
	f := api.Frame{ID: 1, Len: 1, Data: "A"}
	const want = "\x01\x00\x00\x00\x01\x00\x00\x00A\x00\x00\x00\x00\x00\x00\x00"
	for range 2 {
		if s, err := Encode(f); s != want || err != api.OK {
			t.Fatal(s, err)
		}
		if g, err := Decode(want); g != f || err != api.OK {
			t.Fatal(g, err)
		}
		if s, at, err := Pack(f, f); s != want+want || at != 0 || err != api.OK {
			t.Fatal(s, at, err)
		}
		if l, at, err := Unpack(want + want); !slices.Equal(l, []api.Frame{f, f}) || at != 0 || err != api.OK {
			t.Fatal(l, at, err)
		}
		if Long(want) != 16 {
			t.Fatal(Long(want))
		}
		for _, g := range wrongFrames() {
			Encode(g)
			Pack(f, g)
		}
		for _, s := range wrongBytes() {
			Decode(s)
			Long(s)
			Unpack(want + s)
		}
	}
}

// P1: every call ends and none panics, whatever frames and bytes it is given.
func FuzzCallsEnd(f *testing.F) {
	f.Add(0, 0, 0, "", zeros(16))
	f.Add(291, api.Ext, 2, "ab", bytesOf(few()[8]))
	f.Add(math.MinInt, -1, math.MaxInt, "\xff", text(72))
	for _, s := range wrongBytes() {
		f.Add(1, api.Fd, len(s), s, s)
	}
	f.Fuzz(func(t *testing.T, id, flags, n int, data, s string) {
		x := api.Frame{ID: id, Flags: flags, Len: n, Data: data}
		row, err := Encode(x)
		if err != frame.Right(x) || err == api.OK && row != bytesOf(x) || err != api.OK && row != "" {
			t.Error("Encode", row, err)
		}
		decodes(t, s)
		decodes(t, row)
		if all, at, e := Pack(few()[1], x, x); e != err || e == api.OK && (at != 0 || all != bytesOf(few()[1])+row+row) || e != api.OK && (at != 1 || all != "") {
			t.Error("Pack", all, at, e)
		}
		unpacks(t, s)
		unpacks(t, row+s)
		if size := Long(s); size != 0 && size != 16 && size != 72 || (size == 0) != (len(s) < 6) {
			t.Error("Long", size)
		}
	})
}
