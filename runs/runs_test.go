package runs_test

import (
	"bytes"
	"encoding/binary"
	"math"
	"math/big"
	"math/rand"
	"slices"
	"strings"
	"testing"

	"columbarium/api"
	"columbarium/bits"
	"columbarium/runs"
)

const widest = 32

// times answers n times v.
func times(n int, v uint64) []uint64 { return slices.Repeat([]uint64{v}, n) }

// filled answers s's bytes with a known pattern in the room behind them.
func filled(s string) []byte {
	b := bytes.Repeat([]byte{0x02}, len(s)+64)
	copy(b, s)
	return b[:len(s)]
}

// untouched fails if a call changed what filled(s) made.
func untouched(t *testing.T, b []byte, s string) {
	t.Helper()
	if !bytes.Equal(b[:len(s)+64], filled(s)[:len(s)+64]) {
		t.Errorf("R2: what was handed in as %x was changed", s)
	}
}

// lowFirst answers the size lowest bytes of n, the lowest first.
func lowFirst(n *big.Int, size int) []byte {
	b := n.FillBytes(make([]byte, size))
	slices.Reverse(b)
	return b
}

// otherPack lays the numbers into one great number.
func otherPack(l []uint64, width int) []byte {
	all := new(big.Int)
	for _, n := range slices.Backward(l) {
		all.Lsh(all, uint(width)).Or(all, new(big.Int).SetUint64(n))
	}
	return lowFirst(all, len(l)*width/8)
}

// otherEncode is another reckoning of Encode: from place to place, with a list of the groups that wait.
func otherEncode(l []uint64, width int) []byte {
	var out []byte
	var waiting []uint64
	put := func() {
		if len(waiting) > 0 {
			out = binary.AppendUvarint(out, uint64(len(waiting)/8*2+1))
			out = append(out, otherPack(waiting, width)...)
			waiting = nil
		}
	}
	for at := 0; at < len(l); {
		size := slices.IndexFunc(l[at:], func(n uint64) bool { return n != l[at] })
		if size < 0 {
			size = len(l) - at
		}
		if size >= 8 {
			put()
			out = binary.AppendUvarint(out, uint64(size)<<1)
			out = append(out, lowFirst(new(big.Int).SetUint64(l[at]), (width+7)/8)...)
			at += size
			continue
		}
		for range 8 {
			var n uint64
			if at < len(l) {
				n = l[at]
			}
			waiting = append(waiting, n)
			at++
		}
	}
	put()
	return out
}

// otherGet reads a number by the library, and refuses it if the library writes it otherwise.
func otherGet(b []byte) (uint64, int, api.Errno) {
	if !slices.ContainsFunc(b, func(x byte) bool { return x < 0x80 }) {
		return 0, 0, api.ErrEnd
	}
	n, size := binary.Uvarint(b)
	if size <= 0 || !bytes.Equal(binary.AppendUvarint(nil, n), b[:size]) {
		return 0, 0, api.ErrForm
	}
	return n, size, api.OK
}

// piece is a run or groups as they are read: with those that fill up the last group.
type piece struct {
	isRun bool
	l     []uint64
}

// otherPiece reads the piece that b begins with.
func otherPiece(b []byte, left, width int) (piece, int, api.Errno) {
	head, at, why := otherGet(b)
	if why != api.OK {
		return piece{}, 0, why
	}
	isRun, count := head%2 == 0, new(big.Int).SetUint64(head/2)
	size, has := big.NewInt(int64(width+7)/8), new(big.Int).Set(count)
	room := int64(left)
	if !isRun {
		size.Mul(count, big.NewInt(int64(width)))
		has.Lsh(count, 3)
		room = (room + 7) / 8 * 8
	}
	if size.Cmp(big.NewInt(int64(len(b)-at))) > 0 {
		return piece{}, 0, api.ErrEnd
	}
	if has.Sign() == 0 || has.Cmp(big.NewInt(room)) > 0 {
		return piece{}, 0, api.ErrForm
	}
	end := at + int(size.Int64())
	if isRun {
		var n uint64
		for _, x := range slices.Backward(b[at:end]) {
			n = n*256 + uint64(x)
		}
		return piece{true, times(int(has.Int64()), n)}, end, api.OK
	}
	return piece{false, otherUnpack(b[at:end], int(has.Int64()), width)}, end, api.OK
}

// otherUnpack takes the numbers out of one great number.
func otherUnpack(b []byte, n, width int) []uint64 {
	turned := slices.Clone(b)
	slices.Reverse(turned)
	all := new(big.Int).SetBytes(turned)
	one := new(big.Int).Lsh(big.NewInt(1), uint(width))
	var out []uint64
	for range n {
		low := new(big.Int)
		all.DivMod(all, one, low)
		out = append(out, low.Uint64())
	}
	return out
}

// isOneWriting tells by the pieces' forms, without writing them, whether Encode gives them; real is how many of the last piece are not filled up.
func isOneWriting(pieces []piece, real, width int) bool {
	for i, p := range pieces {
		counted := len(p.l)
		if i == len(pieces)-1 {
			counted = real
		}
		if p.isRun && (counted < 8 || p.l[0]>>width != 0) {
			return false
		}
		if i > 0 && pieces[i-1].isRun && pieces[i-1].l[0] == p.l[0] {
			return false
		}
		if !p.isRun && i > 0 && !pieces[i-1].isRun {
			return false
		}
		for at := 0; !p.isRun && at+8 <= counted; at += 8 {
			if slices.Equal(p.l[at:at+8], times(8, p.l[at])) {
				return false
			}
		}
		if slices.ContainsFunc(p.l[counted:], func(n uint64) bool { return n != 0 }) {
			return false
		}
	}
	return true
}

// otherDecode is another reckoning of Decode.
func otherDecode(b []byte, at, n, width int) ([]uint64, int, api.Errno) {
	if width < 0 || width > widest {
		return nil, 0, api.ErrWidth
	}
	if n < 0 || n > 1<<20 || at < 0 || at > len(b) {
		return nil, 0, api.ErrArg
	}
	end, real := at, 0
	var pieces []piece
	var out []uint64
	for len(out) < n {
		real = n - len(out)
		p, size, why := otherPiece(b[end:], real, width)
		if why != api.OK {
			return nil, 0, why
		}
		pieces, out, end = append(pieces, p), append(out, p.l...), end+size
	}
	if !isOneWriting(pieces, real, width) {
		return nil, 0, api.ErrForm
	}
	return out[:n], end, api.OK
}

// hold fails if l does not go to the other reckoning's bytes and back.
func hold(t *testing.T, l []uint64, width int) {
	t.Helper()
	given := slices.Clone(l)
	b, why := runs.Encode(l, width)
	if !slices.Equal(given, l) {
		t.Fatalf("R2: Encode changed %d to %d", given, l)
	}
	if want := otherEncode(l, width); !bytes.Equal(b, want) || why != api.OK {
		t.Fatalf("P5.1: Encode(%d, %d): %x, %d, want %x", l, width, b, why, want)
	}
	for _, head := range []string{"", "\x80", "zz\xff"} {
		all := slices.Concat([]byte(head), b, []byte{0x80, 0x00})
		back, end, why := runs.Decode(all, len(head), len(l), width)
		if !slices.Equal(back, l) || end != len(head)+len(b) || why != api.OK {
			t.Fatalf("P5.3: Decode(%x, %d, %d, %d): %d, %d, %d, want %d, %d", all, len(head), len(l), width, back, end, why, l, len(head)+len(b))
		}
	}
}

// holdBytes fails unless b is read as the other reckoning reads it, and what is read has no other writing.
func holdBytes(t *testing.T, b []byte, at, n, width int) {
	t.Helper()
	l, end, why := runs.Decode(b, at, n, width)
	wl, wend, wwhy := otherDecode(b, at, n, width)
	if !slices.Equal(l, wl) || end != wend || why != wwhy {
		t.Fatalf("P5.2: Decode(%x, %d, %d, %d): %d, %d, %d, want %d, %d, %d", b, at, n, width, l, end, why, wl, wend, wwhy)
	}
	if why != api.OK {
		return
	}
	if again, why := runs.Encode(l, width); !bytes.Equal(again, b[at:end]) || why != api.OK {
		t.Fatalf("P5.3: %d of width %d has two writings: %x and %x, %d", l, width, b[at:end], again, why)
	}
}

func TestEncodeWritesTheDocumentsBytes(t *testing.T) {
	ends := []uint64{1, 0, 1, 0, 1, 0, 1, 0}
	for _, c := range []struct {
		name  string
		l     []uint64
		width int
		want  string
	}{
		{"nine times 5", times(9, 5), 3, "\x12\x05"},
		{"1 2", []uint64{1, 2}, 2, "\x03\x09\x00"},
		{"nil", nil, 3, ""},
		{"none", []uint64{}, 0, ""},
		{"none, the greatest width", nil, 32, ""},
		{"seven times 5 and a 6", append(times(7, 5), 6), 3, "\x03\x6d\xdb\xd6"},
		{"seven times 5", times(7, 5), 3, "\x03\x6d\xdb\x16"},
		{"eight times 5", times(8, 5), 3, "\x10\x05"},
		{"eight times 5 and a 6", append(times(8, 5), 6), 3, "\x10\x05\x03\x06\x00\x00"},
		{"nine times 5 and a 6", append(times(9, 5), 6), 3, "\x12\x05\x03\x06\x00\x00"},
		{"a 6 and eight times 5", append([]uint64{6}, times(8, 5)...), 3, "\x05\x6e\xdb\xb6\x05\x00\x00"},
		{"a 6 and fifteen times 5", append([]uint64{6}, times(15, 5)...), 3, "\x03\x6e\xdb\xb6\x10\x05"},
		{"a 6 and sixteen times 5", append([]uint64{6}, times(16, 5)...), 3, "\x03\x6e\xdb\xb6\x12\x05"},
		{"seven noughts, width 0", times(7, 0), 0, "\x03"},
		{"eight noughts, width 0", times(8, 0), 0, "\x10"},
		{"eight noughts, width 1", times(8, 0), 1, "\x10\x00"},
		{"sixty-four noughts, width 0", times(64, 0), 0, "\x80\x01"},
		{"a group", ends, 1, "\x03\x55"},
		{"two groups in one", append(ends[:8:8], ends...), 1, "\x05\x55\x55"},
		{"a group, and seven the same", append(ends[:8:8], times(7, 1)...), 1, "\x05\x55\x7f"},
		{"a group, and a run", append(ends[:8:8], times(8, 1)...), 1, "\x03\x55\x10\x01"},
		{"a run, and a group", append(times(8, 1), 0, 1), 1, "\x10\x01\x03\x02"},
		{"two runs", append(times(8, 1), times(9, 0)...), 1, "\x10\x01\x12\x00"},
		{"a run, a group and a run", append(append(times(8, 3), 1, 2, 3, 0, 1, 2, 3, 0), times(8, 3)...), 2, "\x10\x03\x03\x39\x39\x10\x03"},
		{"a run of width 8", times(8, 255), 8, "\x10\xff"},
		{"a run of width 9", times(8, 300), 9, "\x10\x2c\x01"},
		{"a small number of width 9", times(8, 1), 9, "\x10\x01\x00"},
		{"a run of width 16", times(8, 0x1234), 16, "\x10\x34\x12"},
		{"a run of width 17", times(8, 0x11234), 17, "\x10\x34\x12\x01"},
		{"a run of width 24", times(8, 0x123456), 24, "\x10\x56\x34\x12"},
		{"a run of width 25", times(8, 0x1123456), 25, "\x10\x56\x34\x12\x01"},
		{"a run of width 32", times(8, math.MaxUint32), 32, "\x10\xff\xff\xff\xff"},
		{"one of width 32", []uint64{0x12345678}, 32, "\x03\x78\x56\x34\x12" + strings.Repeat("\x00", 28)},
	} {
		got, why := runs.Encode(c.l, c.width)
		if string(got) != c.want || why != api.OK {
			t.Errorf("P5.1: Encode of %s: %x, %d, want %x", c.name, got, why, c.want)
		}
		l, end, why := runs.Decode([]byte(c.want), 0, len(c.l), c.width)
		if !slices.Equal(l, c.l) || end != len(c.want) || why != api.OK {
			t.Errorf("P5.2: Decode of %s: %d, %d, %d, want %d", c.name, l, end, why, c.l)
		}
	}
}

func TestEncodeRefusesWidths(t *testing.T) {
	for _, c := range []struct {
		l     []uint64
		width int
		want  api.Errno
	}{
		{nil, -1, api.ErrWidth},
		{nil, 0, api.OK},
		{nil, 32, api.OK},
		{nil, 33, api.ErrWidth},
		{nil, math.MinInt, api.ErrWidth},
		{nil, math.MaxInt, api.ErrWidth},
		{[]uint64{0}, -1, api.ErrWidth},
		{[]uint64{0}, 0, api.OK},
		{[]uint64{1}, 0, api.ErrWidth},
		{[]uint64{1}, 1, api.OK},
		{[]uint64{1}, 33, api.ErrWidth},
		{[]uint64{4}, 2, api.ErrWidth},
		{[]uint64{4}, 3, api.OK},
		{append(times(20, 0), 4), 2, api.ErrWidth},
		{append(times(20, 4), 0), 2, api.ErrWidth},
		{times(9, 1<<31), 31, api.ErrWidth},
		{times(9, 1<<31), 32, api.OK},
		{times(9, 1<<32), 32, api.ErrWidth},
		{times(9, 1<<32), 33, api.ErrWidth},
		{[]uint64{math.MaxUint64}, 64, api.ErrWidth},
	} {
		b, why := runs.Encode(c.l, c.width)
		if why != c.want || why != api.OK && len(b) != 0 {
			t.Errorf("P5.1: Encode(%d, %d): %x, %d, want %d", c.l, c.width, b, why, c.want)
		}
	}
	for width := 1; width <= widest; width++ {
		for _, l := range [][]uint64{{1<<width - 1}, times(8, 1<<(width-1)), {0, 1 << (width - 1), 1}} {
			hold(t, l, bits.Width(l))
			if b, why := runs.Encode(l, bits.Width(l)-1); len(b) != 0 || why != api.ErrWidth {
				t.Errorf("P5.1: Encode(%d), one below bits.Width: %x, %d", l, b, why)
			}
		}
	}
}

func TestListsThereAndBack(t *testing.T) {
	for width := 0; width <= widest; width++ {
		high := uint64(1)<<width - 1
		for size := range 40 {
			hold(t, times(size, high), width)
			hold(t, append(times(size, high), 0), width)
			hold(t, append([]uint64{0}, times(size, high)...), width)
			hold(t, append(times(size, 0), times(9, high)...), width)
		}
	}
	r := rand.New(rand.NewSource(5))
	for range 4000 {
		width := r.Intn(widest + 1)
		var l []uint64
		for range r.Intn(9) {
			v := r.Uint64() >> r.Intn(64) & (1<<width - 1)
			for range 1 + r.Intn(20) {
				l = append(l, v)
				if r.Intn(12) == 0 {
					l = append(l, r.Uint64()&(1<<width-1))
				}
			}
		}
		hold(t, l, width)
	}
	for _, size := range []int{8 * 63, 8 * 64, 8 * 65, 5000} {
		l := make([]uint64, size)
		for i := range l {
			l[i] = uint64(r.Intn(4))
		}
		hold(t, l, 2)
		hold(t, append(l, times(size, 3)...), 2)
	}
}

// TestEveryShortListOfTwoNumbers goes through all lists of noughts and ones round two groups' length.
func TestEveryShortListOfTwoNumbers(t *testing.T) {
	for size := range 13 {
		for n := range 1 << size {
			l := make([]uint64, size)
			for i := range l {
				l[i] = uint64(n >> i & 1)
			}
			hold(t, l, 1)
		}
	}
}

type refusal struct {
	name         string
	s            string
	at, n, width int
	want         api.Errno
}

// refused fails unless each of the cases is refused as it says, with nothing beside it.
func refused(t *testing.T, cases []refusal) {
	t.Helper()
	for _, c := range cases {
		b := filled(c.s)
		l, end, why := runs.Decode(b, c.at, c.n, c.width)
		if len(l) != 0 || end != 0 || why != c.want {
			t.Errorf("P5.2: Decode, %s: %d, %d, %d, want none, 0, %d", c.name, l, end, why, c.want)
		}
		untouched(t, b, c.s)
	}
}

func TestDecodeRefusesArguments(t *testing.T) {
	refused(t, []refusal{
		{"width -1", "\x10", 0, 8, -1, api.ErrWidth},
		{"width 33", "\x10\x00\x00\x00\x00\x00", 0, 8, 33, api.ErrWidth},
		{"the least width", "", 0, 0, math.MinInt, api.ErrWidth},
		{"the greatest width", "", 0, 0, math.MaxInt, api.ErrWidth},
		{"width -1, of none", "", 0, 0, -1, api.ErrWidth},
		{"width 33, of none", "", 0, 0, 33, api.ErrWidth},
		{"width 33, n below 0", "\x10", 0, -1, 33, api.ErrWidth},
		{"width -1, at below 0", "\x10", -1, 8, -1, api.ErrWidth},
		{"width 33, bytes lack", "\x10", 0, 8, 33, api.ErrWidth},
		{"width -1, a wrong form", "\x80\x00", 0, 8, -1, api.ErrWidth},
		{"n -1", "\x10", 0, -1, 0, api.ErrArg},
		{"the least n", "\x10", 0, math.MinInt, 0, api.ErrArg},
		{"n 2^20 + 1", "\x82\x80\x80\x01", 0, 1<<20 + 1, 0, api.ErrArg},
		{"the greatest n", "", 0, math.MaxInt, 0, api.ErrArg},
		{"at -1", "\x10", -1, 8, 0, api.ErrArg},
		{"the least at", "\x10", math.MinInt, 8, 0, api.ErrArg},
		{"at behind the end", "\x10", 2, 8, 0, api.ErrArg},
		{"at behind the end, of none", "\x10", 2, 0, 0, api.ErrArg},
		{"at -1, of none", "\x10", -1, 0, 0, api.ErrArg},
		{"the greatest at", "\x10", math.MaxInt, 8, 0, api.ErrArg},
		{"n -1, bytes lack", "", 0, -1, 3, api.ErrArg},
		{"n 2^20 + 1, a wrong form", "\x80\x00", 0, 1<<20 + 1, 3, api.ErrArg},
	})
}

func TestDecodeRefusesParts(t *testing.T) {
	nine := strings.Repeat("\x80", 9)
	full := strings.Repeat("\xff", 8)
	refused(t, []refusal{
		{"at the end", "\x10", 1, 8, 0, api.ErrEnd},
		{"of nothing", "", 0, 1, 3, api.ErrEnd},
		{"of nothing, width 0", "", 0, 1, 0, api.ErrEnd},
		{"n 2^20, of nothing", "", 0, 1 << 20, 0, api.ErrEnd},
		{"a head that does not end", "\x90", 0, 8, 0, api.ErrEnd},
		{"a head with a last 0", "\x90\x00\x05", 0, 8, 3, api.ErrForm},
		{"a head with a last 0, bytes lack", "\x90\x00", 0, 8, 3, api.ErrForm},
		{"a head of 2^64", nine + "\x02\x05", 0, 8, 3, api.ErrForm},
		{"a head of eleven bytes", nine + "\x80\x01\x05", 0, 8, 3, api.ErrForm},
		{"a run's number lacks", "\x12", 0, 9, 3, api.ErrEnd},
		{"a run's number lacks, and it has too many", "\x12", 0, 8, 3, api.ErrEnd},
		{"a run's number lacks, and it has none", "\x00", 0, 9, 3, api.ErrEnd},
		{"half a run's number lacks", "\x12\x05", 0, 9, 9, api.ErrEnd},
		{"a quarter of a run's number lacks", "\x12\x05\x00\x00", 0, 9, 25, api.ErrEnd},
		{"a run has one too many", "\x12\x05", 0, 8, 3, api.ErrForm},
		{"a run has 2^63 - 1", "\xfe" + full + "\x01\x01", 0, 8, 1, api.ErrForm},
		{"a run has 2^63 - 1, of the most", "\xfe" + full + "\x01", 0, 1 << 20, 0, api.ErrForm},
		{"a run has none", "\x00\x05", 0, 9, 3, api.ErrForm},
		{"a run has none, width 0", "\x00\x10", 0, 8, 0, api.ErrForm},
		{"a group's bytes lack", "\x03", 0, 2, 2, api.ErrEnd},
		{"a group's last byte lacks", "\x03\x09", 0, 2, 2, api.ErrEnd},
		{"a second group's last byte lacks", "\x05\x39\x39\x39", 0, 16, 2, api.ErrEnd},
		{"a group's last byte lacks, and there are too many", "\x05\x09\x00\x00", 0, 8, 2, api.ErrEnd},
		{"one group too many", "\x05\x09\x00\x00\x00", 0, 2, 2, api.ErrForm},
		{"one group too many of eight", "\x05\x39\x39\x39\x39", 0, 8, 2, api.ErrForm},
		{"groups with 2^66 numbers", "\xff" + full + "\x01", 0, 8, 0, api.ErrForm},
		{"groups with 2^66 numbers, bytes lack", "\xff" + full + "\x01", 0, 8, 1, api.ErrEnd},
		{"groups with 2^66 numbers, wide, bytes lack", "\xff" + full + "\x01zzzz", 0, 8, 32, api.ErrEnd},
		{"2^61 groups of width 0", "\x81" + nine[:7] + "\x40", 0, 1 << 20, 0, api.ErrForm},
		{"2^61 groups of width 8", "\x81" + nine[:7] + "\x40", 0, 8, 8, api.ErrEnd},
		{"no groups", "\x01", 0, 9, 3, api.ErrForm},
		{"no groups, width 0", "\x01\x10", 0, 8, 0, api.ErrForm},
		{"the second part lacks", "\x12\x05", 0, 10, 3, api.ErrEnd},
		{"the second part has a last 0", "\x12\x05\x80\x00", 0, 10, 3, api.ErrForm},
		{"the second part's number lacks", "\x12\x05\x10", 0, 17, 3, api.ErrEnd},
		{"the second part has too many", "\x12\x05\x10\x06", 0, 16, 3, api.ErrForm},
		{"the second part has none", "\x12\x05\x00\x06", 0, 16, 3, api.ErrForm},
		{"the second part has none, and no groups", "\x12\x05\x01", 0, 16, 3, api.ErrForm},
		{"the second part has a group too many", "\x12\x05\x05\x06\x00\x00\x00\x00\x00", 0, 17, 3, api.ErrForm},
		{"the first has too many, the second lacks", "\x12\x05\x80", 0, 8, 3, api.ErrForm},
		{"the first has none, the second lacks", "\x00\x05\x80", 0, 8, 3, api.ErrForm},
	})
}

func TestDecodeRefusesWhatEncodeDoesNotGive(t *testing.T) {
	refused(t, []refusal{
		{"a run's number above width bits", "\x12\x08", 0, 9, 3, api.ErrForm},
		{"a run's number far above width bits", "\x12\xff", 0, 9, 3, api.ErrForm},
		{"a run's number above 31 bits", "\x12\x00\x00\x00\x80", 0, 9, 31, api.ErrForm},
		{"a second run's number above width bits", "\x10\x07\x10\x08", 0, 16, 3, api.ErrForm},
		{"one filled up with 1", "\x03\x19\x00", 0, 2, 2, api.ErrForm},
		{"the last filled up with 1", "\x03\x09\x40", 0, 2, 2, api.ErrForm},
		{"the last of a second group filled up with 2", "\x05\x39\x39\x01\x80", 0, 9, 2, api.ErrForm},
		{"a run of seven, all", "\x0e\x05", 0, 7, 3, api.ErrForm},
		{"a run of one", "\x02\x05", 0, 1, 3, api.ErrForm},
		{"a run of seven and a group", "\x0e\x05\x03\x06\x00\x00", 0, 8, 3, api.ErrForm},
		{"a run of seven and one of one", "\x0e\x05\x02\x06", 0, 8, 3, api.ErrForm},
		{"a run of eight and one of seven", "\x10\x05\x0e\x06", 0, 15, 3, api.ErrForm},
		{"eight the same in a group", "\x03\x6d\xdb\xb6", 0, 8, 3, api.ErrForm},
		{"eight noughts in a group, width 0", "\x03", 0, 8, 0, api.ErrForm},
		{"a second group of eight the same", "\x05\x55\xff", 0, 16, 1, api.ErrForm},
		{"a first group of eight the same", "\x05\xff\x55", 0, 16, 1, api.ErrForm},
		{"two runs of one number", "\x10\x05\x10\x05", 0, 16, 3, api.ErrForm},
		{"a run, and a group that begins with its number", "\x10\x01\x03\x01", 0, 10, 1, api.ErrForm},
		{"two groups apart", "\x03\x55\x03\x55", 0, 16, 1, api.ErrForm},
		{"two groups apart, the last filled up", "\x03\x55\x03\x01", 0, 9, 1, api.ErrForm},
		{"begun inside", "zz\x0e\x05", 2, 7, 3, api.ErrForm},
		{"a run of seven, the next lacks", "\x0e\x05", 0, 8, 3, api.ErrEnd},
		{"a number above width bits, the next lacks", "\x12\x08", 0, 10, 3, api.ErrEnd},
		{"two groups apart, the next lacks", "\x03\x55\x03\x55", 0, 17, 1, api.ErrEnd},
		{"eight the same in a group, the next does not end", "\x03\xff\x80", 0, 9, 1, api.ErrEnd},
	})
}

func TestDecodeReads(t *testing.T) {
	for _, c := range []struct {
		s            string
		at, n, width int
		want         []uint64
		end          int
	}{
		{"\x12\x05", 0, 9, 3, times(9, 5), 2},
		{"\x10\x05", 0, 8, 3, times(8, 5), 2},
		{"\x12\x07", 0, 9, 3, times(9, 7), 2},
		{"\x12\xff\xff\xff\x7f", 0, 9, 31, times(9, 1<<31-1), 5},
		{"\x03\x09\x00", 0, 2, 2, []uint64{1, 2}, 3},
		{"\x03\x09\x00", 0, 3, 2, []uint64{1, 2, 0}, 3},
		{"\x03\x09\x00", 0, 8, 2, []uint64{1, 2, 0, 0, 0, 0, 0, 0}, 3},
		{"\x03\x09\x40", 0, 8, 2, []uint64{1, 2, 0, 0, 0, 0, 0, 1}, 3},
		{"\x03\x00\x00", 0, 7, 2, times(7, 0), 3},
		{"\x03", 0, 1, 0, []uint64{0}, 1},
		{"zz\x12\x05zz", 2, 9, 3, times(9, 5), 4},
		{"\x12\x05\x80", 0, 9, 3, times(9, 5), 2},
		{"\x12\x05\x12\x05", 0, 9, 3, times(9, 5), 2},
		{"\x03\x09\x00\x03", 0, 2, 2, []uint64{1, 2}, 3},
		{"anything", 3, 0, 5, nil, 3},
		{"anything", 8, 0, 0, nil, 8},
		{"\x80\x00", 0, 0, 32, nil, 0},
		{"", 0, 0, 0, nil, 0},
		{"\x80\x80\x80\x01", 0, 1 << 20, 0, times(1<<20, 0), 4},
		{"\xfe\xff\x7f", 0, 1<<20 - 1, 0, times(1<<20-1, 0), 3},
	} {
		b := filled(c.s)
		l, end, why := runs.Decode(b, c.at, c.n, c.width)
		if !slices.Equal(l, c.want) || end != c.end || why != api.OK {
			t.Errorf("P5.2: Decode(%x, %d, %d, %d): %d numbers, %d, %d, want %d, %d", c.s, c.at, c.n, c.width, len(l), end, why, len(c.want), c.end)
		}
		untouched(t, b, c.s)
	}
	if l, end, why := runs.Decode(nil, 0, 0, 3); len(l) != 0 || end != 0 || why != api.OK {
		t.Errorf("R4: Decode(nil): %d, %d, %d", l, end, why)
	}
}

func TestEveryBeginningOfAListIsRefused(t *testing.T) {
	l := slices.Concat([]uint64{1, 2, 3}, times(20, 300), []uint64{4, 5}, times(70, 0), []uint64{6})
	b, why := runs.Encode(l, 9)
	if why != api.OK {
		t.Fatal(why)
	}
	for k := range b {
		if l, end, why := runs.Decode(filled(string(b[:k])), 0, len(l), 9); len(l) != 0 || end != 0 || why != api.ErrEnd {
			t.Errorf("P5.2: Decode of %d bytes of %d: %d, %d, %d", k, len(b), l, end, why)
		}
	}
}

func TestATurnedBitIsRefusedOrReadAsItsOwnList(t *testing.T) {
	for _, width := range []int{0, 1, 3, 8, 9, 32} {
		high := uint64(1)<<width - 1
		l := slices.Concat(times(3, high), times(20, 0), times(9, high), []uint64{0, high}, times(8, 0))
		b, why := runs.Encode(l, width)
		if why != api.OK {
			t.Fatal(why)
		}
		for i := range 8 * len(b) {
			turned := slices.Clone(b)
			turned[i/8] ^= 1 << (i % 8)
			holdBytes(t, turned, 0, len(l), width)
		}
	}
}

func TestBytesOfEveryKind(t *testing.T) {
	alphabet := []byte{0x00, 0x01, 0x02, 0x03, 0x05, 0x0e, 0x10, 0x12, 0x55, 0x80, 0xff}
	r := rand.New(rand.NewSource(6))
	for range 60000 {
		b := make([]byte, r.Intn(14))
		for i := range b {
			b[i] = alphabet[r.Intn(len(alphabet))]
		}
		holdBytes(t, b, r.Intn(len(b)+3)-1, r.Intn(36)-1, r.Intn(12)-1)
	}
}

func FuzzDecode(f *testing.F) {
	f.Add([]byte("\x12\x05"), 0, 9, 3)
	f.Add([]byte("zz\x03\x09\x00"), 2, 2, 2)
	f.Add([]byte("\x10\x03\x03\x39\x39\x10\x03"), 0, 24, 2)
	f.Add([]byte("\x05\x55\x7f\x10\x00"), 0, 24, 1)
	f.Fuzz(func(t *testing.T, b []byte, at, n, width int) {
		if len(b) < 4096 {
			holdBytes(t, b, at, n, width)
		}
	})
}

func TestEncodeLeavesTheRoomBehindTheList(t *testing.T) {
	all := times(20, 5)
	if got, why := runs.Encode(all[:7], 3); string(got) != "\x03\x6d\xdb\x16" || why != api.OK {
		t.Errorf("R5: Encode of seven with room behind them: %x, %d", got, why)
	}
	if got, why := runs.Encode(all[:9], 3); string(got) != "\x12\x05" || why != api.OK {
		t.Errorf("R5: Encode of nine with room behind them: %x, %d", got, why)
	}
	if !slices.Equal(all, times(20, 5)) {
		t.Errorf("R2: Encode changed the room behind the list: %d", all)
	}
}

func TestAnswersAreNewMemory(t *testing.T) {
	l := append(times(8, 3), 1, 2)
	s := "\x10\x03\x03\x09\x00"
	first, _ := runs.Encode(l, 2)
	for i := range first[:cap(first)] {
		first[:cap(first)][i] = 0x11
	}
	if got, _ := runs.Encode(l, 2); string(got) != s || !slices.Equal(l, append(times(8, 3), 1, 2)) {
		t.Errorf("R2: an answer of Encode shares memory with another or with what was handed in: %x", got)
	}
	b := filled(s)
	one, _, _ := runs.Decode(b, 0, 10, 2)
	for i := range one[:cap(one)] {
		one[:cap(one)][i] = 7
	}
	untouched(t, b, s)
	two, _, _ := runs.Decode(b, 0, 10, 2)
	b[1], b[3] = 0, 0
	if !slices.Equal(two, l) {
		t.Errorf("R2: Decode's answer changes with what was handed in or another answer: %d", two)
	}
}

func TestALongListTakesNoLongTime(t *testing.T) {
	r := rand.New(rand.NewSource(7))
	mixed, short := make([]uint64, 1<<20), make([]uint64, 1<<20)
	for i := range mixed {
		mixed[i] = r.Uint64() & math.MaxUint32
		short[i] = uint64(i / 8 % 2)
	}
	for _, l := range [][]uint64{mixed, short, times(1<<20, math.MaxUint32)} {
		b, why := runs.Encode(l, widest)
		if why != api.OK {
			t.Fatal(why)
		}
		if back, end, why := runs.Decode(b, 0, len(l), widest); !slices.Equal(back, l) || end != len(b) || why != api.OK {
			t.Errorf("P5.3: a list of %d: %d numbers, %d, %d", len(l), len(back), end, why)
		}
	}
	ones := bytes.Repeat([]byte("\x02\x00"), 1<<20)
	if l, end, why := runs.Decode(ones, 0, 1<<20, 1); len(l) != 0 || end != 0 || why != api.ErrForm {
		t.Errorf("P5.2: 2^20 runs of one: %d numbers, %d, %d", len(l), end, why)
	}
}
