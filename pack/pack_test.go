package pack_test

import (
	"bytes"
	"encoding/binary"
	"math"
	"slices"
	"strings"
	"testing"

	"odometer/api"
	"odometer/pack"
)

// unsigned are numbers at which bytes may go wrong: all that are near where one byte more begins.
func unsigned() []uint64 {
	var l []uint64
	for bit := range 64 {
		for by := range uint64(5) {
			l = append(l, uint64(1)<<bit+by-2)
		}
	}
	return append(l, 0, 300, math.MaxUint64)
}

// signed are these with signs, the least and the greatest among them.
func signed() []int64 {
	l := []int64{math.MinInt64, math.MinInt64 + 1, math.MaxInt64 - 1, math.MaxInt64}
	for _, n := range unsigned() {
		l = append(l, int64(n), -int64(n), int64(n>>1), -int64(n>>1)-1)
	}
	return l
}

// sequence gives bytes, the same in each run.
func sequence() func() byte {
	state := uint64(1)
	return func() byte {
		state = state*6364136223846793005 + 1442695040888963407
		return byte(state >> 56)
	}
}

// some are so many bytes of it.
func some(size int) []byte {
	next := sequence()
	b := make([]byte, size)
	for i := range b {
		b[i] = next()
	}
	return b
}

// P2.1

func TestPutUvarint(t *testing.T) {
	for _, x := range []struct {
		n    uint64
		want string
	}{
		{0, "\x00"},
		{1, "\x01"},
		{127, "\x7f"},
		{128, "\x80\x01"},
		{255, "\xff\x01"},
		{300, "\xac\x02"},
		{16383, "\xff\x7f"},
		{16384, "\x80\x80\x01"},
		{1<<63 - 1, "\xff\xff\xff\xff\xff\xff\xff\xff\x7f"},
		{1 << 63, "\x80\x80\x80\x80\x80\x80\x80\x80\x80\x01"},
		{math.MaxUint64, "\xff\xff\xff\xff\xff\xff\xff\xff\xff\x01"},
	} {
		for _, ahead := range []string{"", "a", "\x80\x80", "many bytes ahead of it"} {
			if b := pack.PutUvarint([]byte(ahead), x.n); string(b) != ahead+x.want {
				t.Errorf("PutUvarint(%q, %d) = %q, want %q behind it", ahead, x.n, b, x.want)
			}
		}
		if b := pack.PutUvarint(nil, x.n); string(b) != x.want {
			t.Errorf("PutUvarint(nil, %d) = %q, want %q", x.n, b, x.want)
		}
	}
}

func TestPutVarint(t *testing.T) {
	for _, x := range []struct {
		n    int64
		want string
	}{
		{0, "\x00"},
		{-1, "\x01"},
		{1, "\x02"},
		{-2, "\x03"},
		{-3, "\x05"},
		{63, "\x7e"},
		{-64, "\x7f"},
		{64, "\x80\x01"},
		{-65, "\x81\x01"},
		{150, "\xac\x02"},
		{math.MaxInt64, "\xfe\xff\xff\xff\xff\xff\xff\xff\xff\x01"},
		{math.MinInt64, "\xff\xff\xff\xff\xff\xff\xff\xff\xff\x01"},
		{math.MinInt64 + 1, "\xfd\xff\xff\xff\xff\xff\xff\xff\xff\x01"},
	} {
		for _, ahead := range []string{"", "a", "\x80\x80", "many bytes ahead of it"} {
			if b := pack.PutVarint([]byte(ahead), x.n); string(b) != ahead+x.want {
				t.Errorf("PutVarint(%q, %d) = %q, want %q behind it", ahead, x.n, b, x.want)
			}
		}
		if b := pack.PutVarint(nil, x.n); string(b) != x.want {
			t.Errorf("PutVarint(nil, %d) = %q, want %q", x.n, b, x.want)
		}
	}
}

func TestPutText(t *testing.T) {
	long := strings.Repeat("a", 127)
	for _, x := range []struct{ s, want string }{
		{"", "\x00"},
		{"abc", "\x03abc"},
		{"\x00", "\x01\x00"},
		{"\xff\x80é", "\x04\xff\x80é"},
		{long, "\x7f" + long},
		{long + "b", "\x80\x01" + long + "b"},
		{strings.Repeat("c", 300), "\xac\x02" + strings.Repeat("c", 300)},
		{strings.Repeat("d", 70000), "\xf0\xa2\x04" + strings.Repeat("d", 70000)},
	} {
		for _, ahead := range []string{"", "a", "\x80\x80", "many bytes ahead of it"} {
			if b := pack.PutText([]byte(ahead), x.s); string(b) != ahead+x.want {
				t.Errorf("PutText(%q, %.40q) = %.60q, want %.40q behind it", ahead, x.s, b, x.want)
			}
		}
		if b := pack.PutText(nil, x.s); string(b) != x.want {
			t.Errorf("PutText(nil, %.40q) = %.60q, want %.40q", x.s, b, x.want)
		}
	}
}

func TestPutAgainstTheLibrary(t *testing.T) {
	for _, n := range unsigned() {
		if b, want := pack.PutUvarint(nil, n), binary.AppendUvarint(nil, n); !bytes.Equal(b, want) {
			t.Errorf("PutUvarint(nil, %d) = %x, want %x", n, b, want)
		}
	}
	for _, n := range signed() {
		if b, want := pack.PutVarint(nil, n), binary.AppendVarint(nil, n); !bytes.Equal(b, want) {
			t.Errorf("PutVarint(nil, %d) = %x, want %x", n, b, want)
		}
	}
}

// What is handed in is not changed, however much room is behind it, and what is answered is new memory.
func TestPutLeavesWhatIsHandedIn(t *testing.T) {
	for name, put := range map[string]func(b []byte) []byte{
		"PutUvarint": func(b []byte) []byte { return pack.PutUvarint(b, 300) },
		"PutVarint":  func(b []byte) []byte { return pack.PutVarint(b, -300) },
		"PutText":    func(b []byte) []byte { return pack.PutText(b, "abc") },
		"no text":    func(b []byte) []byte { return pack.PutText(b, "") },
	} {
		for _, size := range []int{0, 3, 20} {
			memory := bytes.Repeat([]byte{7}, 60)
			first := put(memory[:size])
			second := put(memory[:size])
			for i := range first {
				first[i] ^= 0xff
			}
			if want := bytes.Repeat([]byte{7}, 60); !bytes.Equal(memory, want) {
				t.Errorf("%s changed what was handed in, of %d bytes: %x", name, size, memory)
			}
			for i := range first {
				first[i] ^= 0xff
			}
			if !bytes.Equal(first, second) {
				t.Errorf("%s: two answers, of %d bytes handed in: %x, %x", name, size, first, second)
			}
		}
	}
}

// P2.2

func checkUvarint(t *testing.T, b string, want uint64, size int, wrong api.Errno) {
	t.Helper()
	if n, is, e := pack.Uvarint([]byte(b)); n != want || is != size || e != wrong {
		t.Errorf("Uvarint(%q) = %d, %d, %v, want %d, %d, %v", b, n, is, e, want, size, wrong)
	}
}

func checkVarint(t *testing.T, b string, want int64, size int, wrong api.Errno) {
	t.Helper()
	if n, is, e := pack.Varint([]byte(b)); n != want || is != size || e != wrong {
		t.Errorf("Varint(%q) = %d, %d, %v, want %d, %d, %v", b, n, is, e, want, size, wrong)
	}
}

func checkText(t *testing.T, b string, most int, want string, size int, wrong api.Errno) {
	t.Helper()
	if s, is, e := pack.Text([]byte(b), most); s != want || is != size || e != wrong {
		t.Errorf("Text(%.60q, %d) = %.60q, %d, %v, want %.60q, %d, %v", b, most, s, is, e, want, size, wrong)
	}
}

func TestNumbersAreRead(t *testing.T) {
	for b, want := range map[string]uint64{
		"\x00":                                 0,
		"\x01":                                 1,
		"\x7f":                                 127,
		"\x80\x01":                             128,
		"\xac\x02":                             300,
		"\xff\xff\xff\xff\xff\xff\xff\xff\x7f": 1<<63 - 1,
		"\x80\x80\x80\x80\x80\x80\x80\x80\x80\x01": 1 << 63,
		"\xff\xff\xff\xff\xff\xff\xff\xff\xff\x01": math.MaxUint64,
	} {
		sign := int64(want / 2)
		if want%2 == 1 {
			sign = -1 - sign
		}
		for _, behind := range []string{"", "\x00", "\x01", "\x80", "\xff\xff", "some bytes"} {
			checkUvarint(t, b+behind, want, len(b), api.OK)
			checkVarint(t, b+behind, sign, len(b), api.OK)
		}
	}
}

// wrongNumbers are bytes with which no number stands ahead, and the error.
func wrongNumbers() map[string]api.Errno {
	zeros, ones := strings.Repeat("\x80", 9), strings.Repeat("\xff", 9)
	return map[string]api.Errno{
		// they end too soon
		"":         api.ErrLength,
		"\x80":     api.ErrLength,
		"\xff":     api.ErrLength,
		"\x81\x80": api.ErrLength,
		zeros:      api.ErrLength,
		ones:       api.ErrLength,
		// not the least form
		"\x80\x00":         api.ErrRange,
		"\x81\x00":         api.ErrRange,
		"\xff\x00":         api.ErrRange,
		"\x81\x80\x00":     api.ErrRange,
		"\x80\x81\x80\x00": api.ErrRange,
		zeros + "\x00":     api.ErrRange,
		ones + "\x00":      api.ErrRange,
		// beyond 64 bits, whether they end then or not
		zeros + "\x02":              api.ErrRange,
		ones + "\x02":               api.ErrRange,
		zeros + "\x7f":              api.ErrRange,
		zeros + "\x80":              api.ErrRange,
		ones + "\x80":               api.ErrRange,
		ones + "\x81":               api.ErrRange,
		ones + "\xff":               api.ErrRange,
		zeros + "\x80\x00":          api.ErrRange,
		zeros + "\x81\x00":          api.ErrRange,
		ones + "\xff\x01":           api.ErrRange,
		ones + "\x81\x80":           api.ErrRange,
		ones + ones:                 api.ErrRange,
		ones + ones + ones + "\x00": api.ErrRange,
	}
}

func TestNoNumbers(t *testing.T) {
	for b, wrong := range wrongNumbers() {
		checkUvarint(t, b, 0, 0, wrong)
		checkVarint(t, b, 0, 0, wrong)
		if wrong == api.ErrRange {
			checkUvarint(t, b+"\x00\x01", 0, 0, wrong)
			checkVarint(t, b+"\xff\x01", 0, 0, wrong)
		}
	}
	for _, b := range [][]byte{nil, {}} {
		if n, size, e := pack.Uvarint(b); n != 0 || size != 0 || e != api.ErrLength {
			t.Errorf("Uvarint of no bytes = %d, %d, %v", n, size, e)
		}
		if n, size, e := pack.Varint(b); n != 0 || size != 0 || e != api.ErrLength {
			t.Errorf("Varint of no bytes = %d, %d, %v", n, size, e)
		}
	}
}

// The last byte that 64 bits have room for, in each of its values.
func TestTheTenthByte(t *testing.T) {
	for _, ahead := range []string{strings.Repeat("\x80", 9), strings.Repeat("\xff", 9), "\x81\xc3\x80\x80\xff\xfe\x80\x90\x80"} {
		for c := range 256 {
			for _, behind := range []string{"", "\x00", "\x01", "\x80\x01"} {
				b := ahead + string([]byte{byte(c)}) + behind
				if c == 1 {
					want, _ := binary.Uvarint([]byte(b))
					checkUvarint(t, b, want, 10, api.OK)
				} else {
					checkUvarint(t, b, 0, 0, api.ErrRange)
					checkVarint(t, b, 0, 0, api.ErrRange)
					checkText(t, b, math.MaxInt, "", 0, api.ErrRange)
				}
			}
		}
	}
}

func TestTextsAreRead(t *testing.T) {
	long := strings.Repeat("a", 300)
	for _, x := range []struct {
		b, s string
		size int
	}{
		{"\x00", "", 1},
		{"\x01\x00", "\x00", 2},
		{"\x03abc", "abc", 4},
		{"\x04\xff\x80\xc3\xa9", "\xff\x80é", 5},
		{"\xac\x02" + long, long, 302},
	} {
		for _, behind := range []string{"", "\x00", "\x80", "some bytes"} {
			for _, most := range []int{len(x.s), len(x.s) + 1, 1 << 20, math.MaxInt} {
				checkText(t, x.b+behind, most, x.s, x.size, api.OK)
			}
		}
	}
}

func TestNoTexts(t *testing.T) {
	for b, wrong := range wrongNumbers() {
		for _, most := range []int{math.MinInt, -1, 0, 1, 5, math.MaxInt} {
			checkText(t, b, most, "", 0, wrong)
		}
	}
	if s, size, e := pack.Text(nil, 9); s != "" || size != 0 || e != api.ErrLength {
		t.Errorf("Text of no bytes = %q, %d, %v", s, size, e)
	}
}

func TestTextsThatEndTooSoon(t *testing.T) {
	for _, s := range []string{"a", "abc", strings.Repeat("b", 127), strings.Repeat("c", 128), strings.Repeat("d", 20000)} {
		b := string(pack.PutText(nil, s))
		for _, size := range []int{0, 1, len(b) - len(s) - 1, len(b) - len(s), len(b) - 2, len(b) - 1} {
			checkText(t, b[:size], len(s), "", 0, api.ErrLength)
			checkText(t, b[:size], math.MaxInt, "", 0, api.ErrLength)
		}
	}
	for _, n := range unsigned() {
		if n > 3 && n <= math.MaxInt {
			checkText(t, string(pack.PutUvarint(nil, n))+"abc", math.MaxInt, "", 0, api.ErrLength)
			checkText(t, string(pack.PutUvarint(nil, n))+"abc", int(n), "", 0, api.ErrLength)
		}
	}
}

func TestTextsOfMoreThanMost(t *testing.T) {
	for _, x := range []struct {
		b    string
		most int
	}{
		{"\x01a", 0},
		{"\x03abc", 2},
		{"\x03abcdef", 2},
		{"\xac\x02" + strings.Repeat("a", 300), 299},
		// below 0
		{"\x01a", -1},
		{"\x03abc", math.MinInt},
		// ahead of the text's own end
		{"\x03ab", 2},
		{"\x03", 2},
		{"\x01", 0},
		{"\x01", -1},
		{"\xff\x01abc", 126},
		// lengths that an int has no room for
		{"\x80\x80\x80\x80\x80\x80\x80\x80\x80\x01abc", math.MaxInt},
		{"\x83\x80\x80\x80\x80\x80\x80\x80\x80\x01abc", 3},
		{"\xff\xff\xff\xff\xff\xff\xff\xff\xff\x01abc", math.MaxInt},
		{"\xff\xff\xff\xff\xff\xff\xff\xff\xff\x01abc", -1},
	} {
		checkText(t, x.b, x.most, "", 0, api.ErrRange)
	}
	for _, most := range []int{0, -1, -1000, math.MinInt} { // below 0 is as 0: a text of no bytes has room
		checkText(t, "\x00abc", most, "", 1, api.OK)
	}
}

// A length that is not in the least form is ahead of the text's own end, and of most.
func TestLengthsNotInTheLeastForm(t *testing.T) {
	for _, most := range []int{-1, 0, 3, math.MaxInt} {
		for _, b := range []string{"\x80\x00", "\x83\x00abc", "\x83\x00ab", "\x83\x00", "\x83\x80\x00abc"} {
			checkText(t, b, most, "", 0, api.ErrRange)
		}
	}
}

// What is read neither changes the bytes, nor hangs on them later.
func TestReadLeavesWhatIsHandedIn(t *testing.T) {
	b := []byte("\x03abc\xac\x02\x05")
	s, size, e := pack.Text(b, 9)
	pack.Uvarint(b[4:])
	pack.Varint(b[6:])
	pack.Sum(b)
	if string(b) != "\x03abc\xac\x02\x05" {
		t.Errorf("the bytes were changed: %q", b)
	}
	copy(b, "zzzzzzz")
	if s != "abc" || size != 4 || e != api.OK {
		t.Errorf("Text = %q, %d, %v", s, size, e)
	}
}

// P2.4

func TestWhatWasPutIsRead(t *testing.T) {
	for _, behind := range []string{"", "\x00", "\x01", "\x7f", "\x80", "\xff\xff\xff\xff\xff\xff\xff\xff\xff\xff\xff"} {
		for _, n := range unsigned() {
			b := string(pack.PutUvarint(nil, n))
			checkUvarint(t, b+behind, n, len(b), api.OK)
		}
		for _, n := range signed() {
			b := string(pack.PutVarint(nil, n))
			checkVarint(t, b+behind, n, len(b), api.OK)
		}
		for _, size := range []int{0, 1, 2, 126, 127, 128, 129, 16383, 16384} {
			s := string(some(size))
			b := string(pack.PutText(nil, s))
			checkText(t, b+behind, size, s, len(b), api.OK)
		}
	}
	for n := range int64(70000) {
		b := string(pack.PutUvarint(nil, uint64(n)))
		checkUvarint(t, b, uint64(n), len(b), api.OK)
		b = string(pack.PutVarint(nil, n-35000))
		checkVarint(t, b, n-35000, len(b), api.OK)
	}
}

func TestManyBehindOneAnother(t *testing.T) {
	var b []byte
	for i, n := range signed() {
		b = pack.PutText(pack.PutVarint(pack.PutUvarint(b, uint64(n)), n), string(some(i)))
	}
	for i, want := range signed() {
		u, size, e := pack.Uvarint(b)
		b = b[size:]
		n, more, wrong := pack.Varint(b)
		b = b[more:]
		s, rest, bad := pack.Text(b, i)
		b = b[rest:]
		if u != uint64(want) || n != want || s != string(some(i)) || e != api.OK || wrong != api.OK || bad != api.OK {
			t.Fatalf("%d: %d, %d, %q, %v, %v, %v", want, u, n, s, e, wrong, bad)
		}
	}
	if len(b) > 0 {
		t.Errorf("%d bytes are left", len(b))
	}
}

// checkWhole: what is read of b is just what would be put, and no error is told beside it.
func checkWhole(t *testing.T, b []byte) {
	t.Helper()
	if n, size, e := pack.Uvarint(b); e == api.OK {
		if put := pack.PutUvarint(nil, n); size != len(put) || !bytes.HasPrefix(b, put) {
			t.Errorf("Uvarint(%x) = %d, %d, which is put as %x", b, n, size, put)
		}
	} else if n != 0 || size != 0 {
		t.Errorf("Uvarint(%x) = %d, %d, %v", b, n, size, e)
	}
	if n, size, e := pack.Varint(b); e == api.OK {
		if put := pack.PutVarint(nil, n); size != len(put) || !bytes.HasPrefix(b, put) {
			t.Errorf("Varint(%x) = %d, %d, which is put as %x", b, n, size, put)
		}
	} else if n != 0 || size != 0 {
		t.Errorf("Varint(%x) = %d, %d, %v", b, n, size, e)
	}
	if s, size, e := pack.Text(b, 9); e == api.OK {
		if put := pack.PutText(nil, s); size != len(put) || !bytes.HasPrefix(b, put) || len(s) > 9 {
			t.Errorf("Text(%x, 9) = %q, %d, which is put as %x", b, s, size, put)
		}
	} else if s != "" || size != 0 {
		t.Errorf("Text(%x, 9) = %q, %d, %v", b, s, size, e)
	}
}

// reckon is the error that the bytes of a number without a sign have, by the chapter's words, one behind the other.
func reckon(b []byte) api.Errno {
	end := slices.IndexFunc(b, func(c byte) bool { return c < 0x80 })
	switch {
	case end < 0 && len(b) >= 10, end > 9, end == 9 && b[9] > 1:
		return api.ErrRange
	case end < 0:
		return api.ErrLength
	case end > 0 && b[end] == 0:
		return api.ErrRange
	}
	return api.OK
}

func TestAllShortBytes(t *testing.T) {
	for c := range 1 << 16 {
		for size := 1; size <= 3; size++ {
			b := []byte{byte(c), byte(c >> 8), byte(c * 31 >> 3)}[:size]
			checkWhole(t, b)
			if _, _, e := pack.Uvarint(b); e != reckon(b) {
				t.Errorf("Uvarint(%x): %v, want %v", b, e, reckon(b))
			}
		}
	}
}

func TestBytesDoNoHarm(t *testing.T) {
	next := sequence()
	for range 100000 {
		b := make([]byte, next()%14)
		high := next()
		for i := range b {
			b[i] = next() | high&0x80 // many of them go on
			if next()%8 == 0 {
				b[i] &= 0x81
			}
		}
		checkWhole(t, b)
		_, _, e := pack.Uvarint(b)
		_, _, wrong := pack.Varint(b)
		if e != reckon(b) || wrong != e {
			t.Errorf("Uvarint, Varint (%x): %v, %v, want %v", b, e, wrong, reckon(b))
		}
		if t.Failed() {
			return
		}
	}
}
