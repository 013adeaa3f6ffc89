package varint_test

import (
	"bytes"
	"encoding/binary"
	"math"
	"slices"
	"strings"
	"testing"

	"columbarium/api"
	"columbarium/varint"
)

// filled answers s's bytes with a known pattern in the room behind them.
func filled(s string) []byte {
	b := bytes.Repeat([]byte{0xa5}, len(s)+64)
	copy(b, s)
	return b[:len(s)]
}

// untouched fails if a call changed what filled(s) made.
func untouched(t *testing.T, b []byte, s string) {
	t.Helper()
	if !bytes.Equal(b[:cap(b)][:len(s)+64], filled(s)[:len(s)+64]) {
		t.Errorf("R2: what was handed in as %x was changed", s)
	}
}

// edges answers the numbers at which a writing grows by a byte, and some between.
func edges() []uint64 {
	out := []uint64{0, 1, 2, 300, math.MaxInt64, math.MaxUint64 - 1, math.MaxUint64}
	for shift := 1; shift < 64; shift++ {
		p := uint64(1) << shift
		out = append(out, p-1, p, p+1)
	}
	return out
}

func TestPutWritesTheDocumentsBytes(t *testing.T) {
	for _, c := range []struct {
		n    uint64
		want string
	}{
		{0, "\x00"},
		{1, "\x01"},
		{127, "\x7f"},
		{128, "\x80\x01"},
		{300, "\xac\x02"},
		{16383, "\xff\x7f"},
		{16384, "\x80\x80\x01"},
		{1<<63 - 1, strings.Repeat("\xff", 8) + "\x7f"},
		{1 << 63, strings.Repeat("\x80", 9) + "\x01"},
		{math.MaxUint64, strings.Repeat("\xff", 9) + "\x01"},
	} {
		if got := varint.Put(nil, c.n); string(got) != c.want {
			t.Errorf("P1.1: Put(nothing, %d): %x, want %x", c.n, got, c.want)
		}
		if got := varint.Put([]byte{}, c.n); string(got) != c.want {
			t.Errorf("R4: Put(empty, %d): %x, want %x", c.n, got, c.want)
		}
		if got := varint.Put([]byte("a\x80"), c.n); string(got) != "a\x80"+c.want {
			t.Errorf("P1.1: Put behind others, %d: %x, want %x behind them", c.n, got, c.want)
		}
	}
}

func TestPutUsesAsFewBytesAsMayBe(t *testing.T) {
	for _, n := range edges() {
		size := 1
		for rest := n >> 7; rest > 0; rest >>= 7 {
			size++
		}
		got := varint.Put(nil, n)
		if len(got) != size {
			t.Errorf("P1.1: Put(%d): %d bytes, want %d", n, len(got), size)
		}
		for i, x := range got {
			if (x >= 0x80) != (i < len(got)-1) {
				t.Errorf("P1.1: Put(%d): %x: the top bit of byte %d", n, got, i)
			}
		}
	}
}

func TestWhatIsPutIsGot(t *testing.T) {
	for _, n := range edges() {
		for _, head := range []string{"", "z", "\xff\xff\xff"} {
			b := append(varint.Put([]byte(head), n), 0x80, 0x00)
			x, end, why := varint.Get(b, len(head))
			if x != n || end != len(b)-2 || why != api.OK {
				t.Errorf("P1.3: Get of Put(%x, %d): %d, %d, %d", head, n, x, end, why)
			}
		}
	}
}

func TestGetRefuses(t *testing.T) {
	nine := strings.Repeat("\x80", 9)
	for _, c := range []struct {
		name string
		s    string
		at   int
		want api.Errno
	}{
		{"below 0", "a", -1, api.ErrArg},
		{"far below 0", "a", math.MinInt, api.ErrArg},
		{"above the length", "a", 2, api.ErrArg},
		{"far above the length", "a", math.MaxInt, api.ErrArg},
		{"above the length of nothing", "", 1, api.ErrArg},
		{"below 0 of nothing", "", -1, api.ErrArg},
		{"at the end", "a", 1, api.ErrEnd},
		{"at the end of nothing", "", 0, api.ErrEnd},
		{"one byte lacks", "\x80", 0, api.ErrEnd},
		{"the last of ten lacks", nine, 0, api.ErrEnd},
		{"no last byte within ten", nine + "\x80", 0, api.ErrEnd},
		{"no last byte within eighteen", nine + nine, 0, api.ErrEnd},
		{"no last byte, begun inside", "\x01\xff\xff", 1, api.ErrEnd},
		{"a last 0 behind one", "\x80\x00", 0, api.ErrForm},
		{"a last 0 behind full bits", "\xff\x00", 0, api.ErrForm},
		{"a last 0 behind two", "\x81\x80\x00", 0, api.ErrForm},
		{"a last 0 as the tenth", nine + "\x00", 0, api.ErrForm},
		{"2^64", nine + "\x02", 0, api.ErrForm},
		{"2^64 and one", "\x81" + nine[1:] + "\x02", 0, api.ErrForm},
		{"ten bytes of full bits", strings.Repeat("\xff", 9) + "\x7f", 0, api.ErrForm},
		{"eleven bytes", nine + "\x80\x01", 0, api.ErrForm},
		{"eleven bytes and a last 0", nine + "\x81\x00", 0, api.ErrForm},
		{"twenty bytes", nine + nine + "\x80\x01", 0, api.ErrForm},
	} {
		b := filled(c.s)
		n, end, why := varint.Get(b, c.at)
		if n != 0 || end != 0 || why != c.want {
			t.Errorf("P1.1: Get %s: %d, %d, %d, want 0, 0, %d", c.name, n, end, why, c.want)
		}
		untouched(t, b, c.s)
	}
	if n, end, why := varint.Get(nil, 0); n != 0 || end != 0 || why != api.ErrEnd {
		t.Errorf("P1.1: Get(nil, 0): %d, %d, %d", n, end, why)
	}
}

func TestGetReads(t *testing.T) {
	for _, c := range []struct {
		s    string
		at   int
		want uint64
		end  int
	}{
		{"\x00", 0, 0, 1},
		{"\x00\x00", 0, 0, 1},
		{"\x00\x00", 1, 0, 2},
		{"\x7f", 0, 127, 1},
		{"zz\xac\x02zz", 2, 300, 4},
		{"\xac\x02", 1, 2, 2},
		{"\x80\x80\x01", 1, 128, 3},
		{strings.Repeat("\x80", 9) + "\x01", 0, 1 << 63, 10},
		{strings.Repeat("\xff", 9) + "\x01", 0, math.MaxUint64, 10},
	} {
		b := filled(c.s)
		n, end, why := varint.Get(b, c.at)
		if n != c.want || end != c.end || why != api.OK {
			t.Errorf("P1.1: Get(%x, %d): %d, %d, %d, want %d, %d", c.s, c.at, n, end, why, c.want, c.end)
		}
		untouched(t, b, c.s)
	}
}

// expected tells what Get must answer of b from 0 on, found in another way: it is read and written anew.
func expected(b []byte) (uint64, int, api.Errno) {
	if !slices.ContainsFunc(b, func(x byte) bool { return x < 0x80 }) {
		return 0, 0, api.ErrEnd
	}
	n, size := binary.Uvarint(b)
	if size <= 0 || !bytes.Equal(binary.AppendUvarint(nil, n), b[:size]) {
		return 0, 0, api.ErrForm
	}
	return n, size, api.OK
}

// hold fails unless b is read as expected, and what is read has no other writing.
func hold(t *testing.T, b []byte) {
	t.Helper()
	n, end, why := varint.Get(b, 0)
	if wn, wend, wwhy := expected(b); n != wn || end != wend || why != wwhy {
		t.Fatalf("P1.1: Get(%x): %d, %d, %d, want %d, %d, %d", b, n, end, why, wn, wend, wwhy)
	}
	if why == api.OK && !bytes.Equal(varint.Put(nil, n), b[:end]) {
		t.Fatalf("P1.3: %d has two writings: %x and %x", n, b[:end], varint.Put(nil, n))
	}
}

func TestOneWritingOfEachNumber(t *testing.T) {
	for x := range 1 << 16 {
		hold(t, []byte{byte(x), byte(x >> 8)})
	}
	alphabet := []byte{0x00, 0x01, 0x02, 0x7f, 0x80, 0x81, 0xff}
	for head := range 12 {
		for _, fill := range []byte{0x80, 0xff} {
			for x := range 7 * 7 * 7 {
				tail := []byte{alphabet[x%7], alphabet[x/7%7], alphabet[x/49]}
				hold(t, append(bytes.Repeat([]byte{fill}, head), tail...))
			}
		}
	}
}

func FuzzGet(f *testing.F) {
	for _, n := range []uint64{0, 127, 128, 300, math.MaxUint64} {
		f.Add(varint.Put(nil, n))
	}
	f.Add([]byte{0x80, 0x00})
	f.Fuzz(func(t *testing.T, b []byte) { hold(t, b) })
}

func TestZigAndZag(t *testing.T) {
	for i, n := range []int64{0, -1, 1, -2, 2, -3, 3} {
		if got := varint.Zig(n); got != uint64(i) {
			t.Errorf("P1.1: Zig(%d): %d, want %d", n, got, i)
		}
		if got := varint.Zag(uint64(i)); got != n {
			t.Errorf("P1.1: Zag(%d): %d, want %d", i, got, n)
		}
	}
	for _, c := range []struct {
		n    int64
		want uint64
	}{
		{math.MaxInt64, math.MaxUint64 - 1},
		{math.MinInt64, math.MaxUint64},
		{math.MinInt64 + 1, math.MaxUint64 - 2},
		{1 << 62, 1 << 63},
		{-1 << 62, 1<<63 - 1},
	} {
		if got := varint.Zig(c.n); got != c.want {
			t.Errorf("P1.1: Zig(%d): %d, want %d", c.n, got, c.want)
		}
		if got := varint.Zag(c.want); got != c.n {
			t.Errorf("P1.1: Zag(%d): %d, want %d", c.want, got, c.n)
		}
	}
	for _, n := range edges() {
		if got := varint.Zig(varint.Zag(n)); got != n {
			t.Errorf("P1.3: Zig(Zag(%d)): %d", n, got)
		}
		if got := varint.Zag(varint.Zig(int64(n))); got != int64(n) {
			t.Errorf("P1.3: Zag(Zig(%d)): %d", int64(n), got)
		}
	}
}

func TestPutText(t *testing.T) {
	long := strings.Repeat("x", 300)
	for _, c := range []struct{ b, s, want string }{
		{"", "", "\x00"},
		{"", "ab", "\x02ab"},
		{"z", "ab", "z\x02ab"},
		{"z", "", "z\x00"},
		{"", "\x00\xff\xc3", "\x03\x00\xff\xc3"},
		{"", "\u00e9", "\x02\xc3\xa9"},
		{"z", long, "z\xac\x02" + long},
	} {
		if got := varint.PutText([]byte(c.b), c.s); string(got) != c.want {
			t.Errorf("P1.2: PutText(%x, %x): %x, want %x", c.b, c.s, got, c.want)
		}
	}
	if got := varint.PutText(nil, "ab"); string(got) != "\x02ab" {
		t.Errorf("R4: PutText(nil): %x", got)
	}
}

func TestGetTextRefuses(t *testing.T) {
	nine := strings.Repeat("\xff", 9)
	for _, c := range []struct {
		name     string
		s        string
		at, most int
		want     api.Errno
	}{
		{"below 0", "\x01a", -1, 5, api.ErrArg},
		{"far below 0", "\x01a", math.MinInt, -1, api.ErrArg},
		{"above the length", "\x01a", 3, 5, api.ErrArg},
		{"far above the length", "\x01a", math.MaxInt, 5, api.ErrArg},
		{"at the end", "\x01a", 2, 5, api.ErrEnd},
		{"of nothing", "", 0, 5, api.ErrEnd},
		{"a length that does not end", "\x80", 0, 0, api.ErrEnd},
		{"a length with a last 0", "\x80\x00", 0, 5, api.ErrForm},
		{"a length above 2^64 - 1", strings.Repeat("\x80", 9) + "\x02", 0, 0, api.ErrForm},
		{"above most", "\x02ab", 0, 1, api.ErrLong},
		{"above most, and bytes lack", "\x02a", 0, 1, api.ErrLong},
		{"above most of 0", "\x01a", 0, 0, api.ErrLong},
		{"above most below 0", "\x01a", 0, -5, api.ErrLong},
		{"above the least most", "\x01a", 0, math.MinInt, api.ErrLong},
		{"2^64 - 1", nine + "\x01", 0, math.MaxInt, api.ErrLong},
		{"2^64 - 1, most below 0", nine + "\x01a", 0, -1, api.ErrLong},
		{"2^63", strings.Repeat("\x80", 9) + "\x01", 0, math.MaxInt, api.ErrLong},
		{"2^63 - 1, and bytes lack", nine[:8] + "\x7f", 0, math.MaxInt, api.ErrEnd},
		{"one byte lacks", "\x02a", 0, 2, api.ErrEnd},
		{"all bytes lack", "zz\x01", 2, 2, api.ErrEnd},
	} {
		b := filled(c.s)
		s, end, why := varint.GetText(b, c.at, c.most)
		if s != "" || end != 0 || why != c.want {
			t.Errorf("P1.2: GetText %s: %q, %d, %d, want nothing, 0, %d", c.name, s, end, why, c.want)
		}
		untouched(t, b, c.s)
	}
	if s, end, why := varint.GetText(nil, 0, 1); s != "" || end != 0 || why != api.ErrEnd {
		t.Errorf("P1.2: GetText(nil): %q, %d, %d", s, end, why)
	}
}

func TestGetTextReads(t *testing.T) {
	for _, c := range []struct {
		b        string
		at, most int
		want     string
		end      int
	}{
		{"\x02ab", 0, 2, "ab", 3},
		{"\x02abc", 0, math.MaxInt, "ab", 3},
		{"z\x01\xff\x00", 1, 1, "\xff", 3},
		{"\x00", 0, 0, "", 1},
		{"\x00", 0, -5, "", 1},
		{"\x00", 0, math.MinInt, "", 1},
		{"zz\x00", 2, 9, "", 3},
	} {
		b := filled(c.b)
		s, end, why := varint.GetText(b, c.at, c.most)
		if s != c.want || end != c.end || why != api.OK {
			t.Errorf("P1.2: GetText(%x, %d, %d): %x, %d, %d, want %x, %d", c.b, c.at, c.most, s, end, why, c.want, c.end)
		}
		untouched(t, b, c.b)
	}
}

func TestTextsThatArePutAreGot(t *testing.T) {
	for _, size := range []int{0, 1, api.MaxText, 127, 128, 129, 300, 16383, 16384, api.MaxBlock} {
		want := strings.Repeat("\x80\x00q", size/3+1)[:size]
		b := append(varint.PutText([]byte("head"), want), "tail"...)
		s, end, why := varint.GetText(b, 4, size)
		if s != want || end != len(b)-4 || why != api.OK {
			t.Errorf("P1.3: a text of %d bytes: %d bytes, %d, %d", size, len(s), end, why)
		}
		if size > 0 {
			if _, _, why := varint.GetText(b, 4, size-1); why != api.ErrLong {
				t.Errorf("P1.2: a text of %d bytes, one above most: %d", size, why)
			}
		}
	}
}

func TestAnswersAreNewMemory(t *testing.T) {
	put := map[string]func(b []byte) []byte{
		"Put":          func(b []byte) []byte { return varint.Put(b, 300) },
		"PutText":      func(b []byte) []byte { return varint.PutText(b, "xy") },
		"PutText of 0": func(b []byte) []byte { return varint.PutText(b, "") },
	}
	for name, call := range put {
		b := filled("abc")
		got := call(b)
		untouched(t, b, "abc")
		all := got[:cap(got)]
		for i := range all {
			all[i] = 0x11
		}
		untouched(t, b, "abc")
		again := call(b)
		if bytes.Equal(again[:3], all[:3]) {
			t.Errorf("R2: %s: two answers share memory", name)
		}
	}
	b := []byte("\x02ab")
	s, _, _ := varint.GetText(b, 0, 2)
	b[1] = 'z'
	if s != "ab" {
		t.Errorf("R2: GetText's answer changes with what was handed in: %q", s)
	}
}
