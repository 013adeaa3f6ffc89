package delta_test

import (
	"bytes"
	"encoding/binary"
	"math"
	"math/rand"
	"slices"
	"strings"
	"testing"

	"columbarium/api"
	"columbarium/delta"
)

// ends are numbers at the ends of int64 and round 0.
func ends() []int64 {
	return []int64{math.MinInt64, math.MinInt64 + 1, -1 << 62, -65, -64, -1, 0, 1, 63, 64, 1 << 62, math.MaxInt64 - 1, math.MaxInt64}
}

// filled answers s's bytes with a known pattern in the room behind them.
func filled(s string) []byte {
	b := bytes.Repeat([]byte{0x02}, len(s)+64)
	copy(b, s)
	return b[:len(s)]
}

// untouched fails if a call changed what filled(s) made.
func untouched(t *testing.T, b []byte, s string) {
	t.Helper()
	if !bytes.Equal(b[:len(s)+64], filled(s)[:len(s)+64]) {
		t.Errorf("R2: what was handed in as %x was changed", s)
	}
}

// differences answers each number of l, behind the first, less the one ahead of it.
func differences(l []int64) []int64 {
	var out []int64
	for i := 1; i < len(l); i++ {
		out = append(out, l[i]-l[i-1])
	}
	return out
}

// otherEncode is another reckoning of Encode: whole lists of differences, and the library's numbers.
func otherEncode(l []int64) []byte {
	out := binary.AppendUvarint(nil, uint64(len(l)))
	if len(l) > 0 {
		out = binary.AppendVarint(out, l[0])
	}
	first := differences(l)
	if len(first) > 0 {
		out = binary.AppendVarint(out, first[0])
	}
	for _, n := range differences(first) {
		out = binary.AppendVarint(out, n)
	}
	return out
}

// otherGet reads a number by the library, and refuses it if the library writes it otherwise.
func otherGet(b []byte) (uint64, int, api.Errno) {
	if !slices.ContainsFunc(b, func(x byte) bool { return x < 0x80 }) {
		return 0, 0, api.ErrEnd
	}
	n, size := binary.Uvarint(b)
	if size <= 0 || !bytes.Equal(binary.AppendUvarint(nil, n), b[:size]) {
		return 0, 0, api.ErrForm
	}
	return n, size, api.OK
}

// otherDecode is another reckoning of Decode: the library's numbers, and no running sum.
func otherDecode(b []byte, at, most int) ([]int64, int, api.Errno) {
	if at < 0 || at > len(b) {
		return nil, 0, api.ErrArg
	}
	count, size, why := otherGet(b[at:])
	if why != api.OK {
		return nil, 0, why
	}
	if count != 0 && (most < 0 || count > uint64(most)) {
		return nil, 0, api.ErrMany
	}
	end := at + size
	var bends []uint64
	for uint64(len(bends)) < count {
		_, size, why := otherGet(b[end:])
		if why != api.OK {
			return nil, 0, why
		}
		n, _ := binary.Varint(b[end:])
		bends = append(bends, uint64(n))
		end += size
	}
	return fromBends(bends), end, api.OK
}

// fromBends weighs each bend by how many steps it lasts: no running sum is kept.
func fromBends(bends []uint64) []int64 {
	var out []int64
	for k := range bends {
		n := bends[0]
		for j := 1; j <= k; j++ {
			n += bends[j] * uint64(k-j+1)
		}
		out = append(out, int64(n))
	}
	return out
}

// hold fails if l does not go to the other reckoning's bytes and back.
func hold(t *testing.T, l []int64) {
	t.Helper()
	given := slices.Clone(l)
	b := delta.Encode(l)
	if !slices.Equal(given, l) {
		t.Fatalf("R2: Encode changed %d to %d", given, l)
	}
	if want := otherEncode(l); !bytes.Equal(b, want) {
		t.Fatalf("P4.1: Encode(%d): %x, want %x", l, b, want)
	}
	for _, head := range []string{"", "\x80", "zz\xff"} {
		all := slices.Concat([]byte(head), b, []byte{0x80, 0x00})
		back, end, why := delta.Decode(all, len(head), len(l))
		if !slices.Equal(back, l) || end != len(head)+len(b) || why != api.OK {
			t.Fatalf("P4.2: Decode(%x, %d, %d): %d, %d, %d, want %d, %d", all, len(head), len(l), back, end, why, l, len(head)+len(b))
		}
	}
}

func TestEncodeWritesTheDocumentsBytes(t *testing.T) {
	for _, c := range []struct {
		l    []int64
		want string
	}{
		{nil, "\x00"},
		{[]int64{}, "\x00"},
		{[]int64{0}, "\x01\x00"},
		{[]int64{-1}, "\x01\x01"},
		{[]int64{1}, "\x01\x02"},
		{[]int64{10, 20, 30}, "\x03\x14\x14\x00"},
		{[]int64{10, 20}, "\x02\x14\x14"},
		{[]int64{20, 10}, "\x02\x28\x13"},
		{[]int64{10, 20, 31}, "\x03\x14\x14\x02"},
		{[]int64{10, 20, 29}, "\x03\x14\x14\x01"},
		{[]int64{10, 20, 30, 39}, "\x04\x14\x14\x00\x01"},
		{[]int64{7, 7, 7}, "\x03\x0e\x00\x00"},
		{[]int64{64, 64}, "\x02\x80\x01\x00"},
		{[]int64{0, 0, 64}, "\x03\x00\x00\x80\x01"},
		{[]int64{math.MaxInt64}, "\x01\xfe" + strings.Repeat("\xff", 8) + "\x01"},
		{[]int64{math.MinInt64}, "\x01" + strings.Repeat("\xff", 9) + "\x01"},
		{[]int64{math.MinInt64, math.MaxInt64}, "\x02" + strings.Repeat("\xff", 9) + "\x01\x01"},
		{[]int64{math.MaxInt64, math.MinInt64}, "\x02\xfe" + strings.Repeat("\xff", 8) + "\x01\x02"},
	} {
		got := delta.Encode(c.l)
		if string(got) != c.want {
			t.Errorf("P4.1: Encode(%d): %x, want %x", c.l, got, c.want)
		}
		if l, end, why := delta.Decode([]byte(c.want), 0, len(c.l)); !slices.Equal(l, c.l) || end != len(c.want) || why != api.OK {
			t.Errorf("P4.2: Decode(%x): %d, %d, %d, want %d", c.want, l, end, why, c.l)
		}
	}
}

func TestListsThereAndBack(t *testing.T) {
	for _, a := range ends() {
		hold(t, []int64{a})
		for _, b := range ends() {
			hold(t, []int64{a, b})
			for _, c := range ends() {
				hold(t, []int64{a, b, c})
				hold(t, []int64{0, a, b, c, a})
			}
		}
	}
	r := rand.New(rand.NewSource(4))
	for _, size := range []int{4, 16, 127, 128, 129, 1000, 20000} {
		l := make([]int64, size)
		for i := range l {
			l[i] = int64(r.Uint64()) >> r.Intn(64)
		}
		hold(t, l)
	}
	for range 500 {
		l := make([]int64, r.Intn(30))
		var now int64
		for i := range l {
			now += int64(r.Intn(200)) - 20
			l[i] = now
		}
		hold(t, l)
	}
}

func TestEvenlyRisingOnesTakeAByteEach(t *testing.T) {
	for _, step := range []int64{0, 1, -1, 10, 1000, -1 << 40, math.MaxInt64, math.MinInt64} {
		for _, first := range ends() {
			l := []int64{first, first + step}
			ahead := len(delta.Encode(l))
			for len(l) < 100 {
				l = append(l, l[len(l)-1]+step)
				if got := len(delta.Encode(l)); got != ahead+len(l)-2 {
					t.Fatalf("P4.2: %d by steps of %d: %d bytes, want %d", len(l), step, got, ahead+len(l)-2)
				}
			}
			hold(t, l)
		}
	}
}

func TestDecodeRefuses(t *testing.T) {
	nine := strings.Repeat("\x80", 9)
	full := strings.Repeat("\xff", 9)
	for _, c := range []struct {
		name     string
		s        string
		at, most int
		want     api.Errno
	}{
		{"below 0", "\x01\x02", -1, 9, api.ErrArg},
		{"far below 0", "\x01\x02", math.MinInt, 9, api.ErrArg},
		{"above the length", "\x01\x02", 3, 9, api.ErrArg},
		{"far above the length", "\x01\x02", math.MaxInt, 9, api.ErrArg},
		{"above the length of nothing", "", 1, 9, api.ErrArg},
		{"below 0, and too many", "\x05\x02", -1, 4, api.ErrArg},
		{"above the length, most below 0", "\x05", 2, -1, api.ErrArg},
		{"at the end", "\x01\x02", 2, 9, api.ErrEnd},
		{"of nothing", "", 0, 9, api.ErrEnd},
		{"of nothing, most below 0", "", 0, -1, api.ErrEnd},
		{"a count that does not end", "\x80", 0, 9, api.ErrEnd},
		{"a count that does not end, and is too great", "\x85\x80", 0, 4, api.ErrEnd},
		{"a count with a last 0", "\x80\x00", 0, 9, api.ErrForm},
		{"a count with a last 0, and too great", "\x85\x00", 0, 4, api.ErrForm},
		{"a count of 2^64", nine + "\x02", 0, math.MaxInt, api.ErrForm},
		{"a count of eleven bytes", nine + "\x80\x01", 0, 0, api.ErrForm},
		{"one above most", "\x03\x14\x14\x00", 0, 2, api.ErrMany},
		{"far above most", "\x7f\x14\x14\x00", 0, 2, api.ErrMany},
		{"one, most 0", "\x01\x02", 0, 0, api.ErrMany},
		{"one, most below 0", "\x01\x02", 0, -1, api.ErrMany},
		{"one, the least most", "\x01\x02", 0, math.MinInt, api.ErrMany},
		{"above most, and bytes lack", "\x03\x14", 0, 2, api.ErrMany},
		{"above most, and no bytes behind", "\x03", 0, 2, api.ErrMany},
		{"above most, and a number of a wrong form", "\x03\x80\x00", 0, 2, api.ErrMany},
		{"a count of 2^63", nine + "\x01", 0, math.MaxInt, api.ErrMany},
		{"a count of 2^64 - 1", full + "\x01", 0, math.MaxInt, api.ErrMany},
		{"a count of 2^64 - 1, most below 0", full + "\x01", 0, -1, api.ErrMany},
		{"a count of 2^63 - 1, and no bytes behind", full[:8] + "\x7f", 0, math.MaxInt, api.ErrEnd},
		{"a count of 2^63 - 1, and two numbers", full[:8] + "\x7f\x00\x00", 0, math.MaxInt, api.ErrEnd},
		{"the first lacks", "\x01", 0, 1, api.ErrEnd},
		{"the second lacks", "\x02\x14", 0, 2, api.ErrEnd},
		{"the third lacks", "\x03\x14\x14", 0, 3, api.ErrEnd},
		{"the first does not end", "\x01\x80", 0, 1, api.ErrEnd},
		{"the third does not end", "\x03\x14\x14\xff", 0, 3, api.ErrEnd},
		{"the last does not end, begun inside", "zz\x01\x80", 2, 1, api.ErrEnd},
		{"the first has a last 0", "\x01\x80\x00", 0, 1, api.ErrForm},
		{"the second has a last 0", "\x02\x14\x80\x00", 0, 2, api.ErrForm},
		{"the third has a last 0", "\x03\x14\x14\x81\x00", 0, 3, api.ErrForm},
		{"the third is 2^64", "\x03\x14\x14" + nine + "\x02", 0, 3, api.ErrForm},
		{"the second has eleven bytes", "\x02\x14" + nine + "\x80\x01", 0, 2, api.ErrForm},
		{"the first has a last 0, the second lacks", "\x02\x80\x00", 0, 2, api.ErrForm},
		{"the first has a last 0, the second does not end", "\x02\x80\x00\x80", 0, 2, api.ErrForm},
	} {
		b := filled(c.s)
		l, end, why := delta.Decode(b, c.at, c.most)
		if len(l) != 0 || end != 0 || why != c.want {
			t.Errorf("P4.1: Decode %s: %d, %d, %d, want none, 0, %d", c.name, l, end, why, c.want)
		}
		untouched(t, b, c.s)
	}
	if l, end, why := delta.Decode(nil, 0, 9); len(l) != 0 || end != 0 || why != api.ErrEnd {
		t.Errorf("R4: Decode(nil): %d, %d, %d", l, end, why)
	}
}

func TestDecodeReads(t *testing.T) {
	for _, c := range []struct {
		s        string
		at, most int
		want     []int64
		end      int
	}{
		{"\x03\x14\x14\x00", 0, 3, []int64{10, 20, 30}, 4},
		{"\x03\x14\x14\x00", 0, 4, []int64{10, 20, 30}, 4},
		{"\x03\x14\x14\x00", 0, math.MaxInt, []int64{10, 20, 30}, 4},
		{"\x03\x14\x14\x00\x00\x80", 0, 3, []int64{10, 20, 30}, 4},
		{"zz\x03\x14\x14\x00zz", 2, 3, []int64{10, 20, 30}, 6},
		{"\x03\x01\x02", 1, 1, []int64{1}, 3},
		{"\x03\x01\x00", 2, 0, nil, 3},
		{"\x00", 0, 0, nil, 1},
		{"\x00", 0, -1, nil, 1},
		{"\x00", 0, math.MinInt, nil, 1},
		{"\x00\x80", 0, 9, nil, 1},
	} {
		b := filled(c.s)
		l, end, why := delta.Decode(b, c.at, c.most)
		if !slices.Equal(l, c.want) || end != c.end || why != api.OK {
			t.Errorf("P4.1: Decode(%x, %d, %d): %d, %d, %d, want %d, %d", c.s, c.at, c.most, l, end, why, c.want, c.end)
		}
		untouched(t, b, c.s)
	}
}

func TestEveryBeginningOfAListIsRefused(t *testing.T) {
	b := delta.Encode([]int64{5, -300, math.MaxInt64, math.MinInt64, 0, 0, 1 << 40})
	for k := range b {
		if l, end, why := delta.Decode(filled(string(b[:k])), 0, 7); len(l) != 0 || end != 0 || why != api.ErrEnd {
			t.Errorf("P4.1: Decode of %d bytes of %d: %d, %d, %d", k, len(b), l, end, why)
		}
	}
}

// holdBytes fails unless b is read as the other reckoning reads it, and what is read has no other writing.
func holdBytes(t *testing.T, b []byte, at, most int) {
	t.Helper()
	l, end, why := delta.Decode(b, at, most)
	wl, wend, wwhy := otherDecode(b, at, most)
	if !slices.Equal(l, wl) || end != wend || why != wwhy {
		t.Fatalf("P4.1: Decode(%x, %d, %d): %d, %d, %d, want %d, %d, %d", b, at, most, l, end, why, wl, wend, wwhy)
	}
	if why == api.OK && !bytes.Equal(delta.Encode(l), b[at:end]) {
		t.Fatalf("P4.2: %d has two writings: %x and %x", l, b[at:end], delta.Encode(l))
	}
}

func TestBytesOfEveryKind(t *testing.T) {
	alphabet := []byte{0x00, 0x01, 0x02, 0x03, 0x7f, 0x80, 0xff}
	r := rand.New(rand.NewSource(5))
	for range 20000 {
		b := make([]byte, r.Intn(14))
		for i := range b {
			b[i] = alphabet[r.Intn(len(alphabet))]
		}
		holdBytes(t, b, r.Intn(len(b)+3)-1, r.Intn(6)-1)
	}
}

func FuzzDecode(f *testing.F) {
	f.Add([]byte("\x03\x14\x14\x00"), 0, 3)
	f.Add([]byte("zz\x01\x80\x00"), 2, 1)
	f.Add(delta.Encode(ends()), 0, 20)
	f.Fuzz(func(t *testing.T, b []byte, at, most int) {
		if len(b) < 4096 {
			holdBytes(t, b, at, most)
		}
	})
}

func TestEncodeLeavesTheRoomBehindTheList(t *testing.T) {
	all := []int64{1, 2, 3, 4, 5, 6}
	if got := delta.Encode(all[:2]); string(got) != "\x02\x02\x02" {
		t.Errorf("R5: Encode of two with room behind them: %x", got)
	}
	if !slices.Equal(all, []int64{1, 2, 3, 4, 5, 6}) {
		t.Errorf("R2: Encode changed the room behind the list: %d", all)
	}
}

func TestAnswersAreNewMemory(t *testing.T) {
	l := []int64{10, 20, 30}
	first := delta.Encode(l)
	all := first[:cap(first)]
	for i := range all {
		all[i] = 0x11
	}
	if got := delta.Encode(l); string(got) != "\x03\x14\x14\x00" {
		t.Errorf("R2: two answers of Encode share memory: %x", got)
	}
	s := "\x03\x14\x14\x00"
	b := filled(s)
	one, _, _ := delta.Decode(b, 0, 3)
	for i := range one[:cap(one)] {
		one[:cap(one)][i] = -1
	}
	untouched(t, b, s)
	two, _, _ := delta.Decode(b, 0, 3)
	b[1] = 0
	if !slices.Equal(two, l) {
		t.Errorf("R2: Decode's answer changes with what was handed in or another answer: %d", two)
	}
}

func TestALongListTakesNoLongTime(t *testing.T) {
	l := make([]int64, 1<<20)
	for i := range l {
		l[i] = int64(i) * 7
	}
	b := delta.Encode(l)
	if back, end, why := delta.Decode(b, 0, len(l)); !slices.Equal(back, l) || end != len(b) || why != api.OK {
		t.Errorf("P4.2: a list of %d: %d numbers, %d, %d", len(l), len(back), end, why)
	}
}
