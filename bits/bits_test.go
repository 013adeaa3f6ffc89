package bits_test

import (
	"bytes"
	"math"
	"math/big"
	mathbits "math/bits"
	"math/rand"
	"slices"
	"testing"

	"columbarium/api"
	"columbarium/bits"
)

const most = 1 << 24

// otherPack is another reckoning of Pack: the list as one great number, its lowest byte first.
func otherPack(l []uint64, width int) []byte {
	all := new(big.Int)
	for i, n := range l {
		one := new(big.Int).SetUint64(n)
		all.Or(all, one.Lsh(one, uint(i*width)))
	}
	out := all.FillBytes(make([]byte, (len(l)*width+7)/8))
	slices.Reverse(out)
	return out
}

// greatest answers the greatest number of width bits.
func greatest(width int) uint64 {
	if width == 0 {
		return 0
	}
	return math.MaxUint64 >> (64 - width)
}

// some answers n numbers of at most width bits, the same ones in each run.
func some(seed int64, n, width int) []uint64 {
	r := rand.New(rand.NewSource(seed))
	l := make([]uint64, n)
	for i := range l {
		l[i] = r.Uint64() & greatest(width)
	}
	return l
}

// hold fails if l does not go to the other reckoning's bytes and back.
func hold(t *testing.T, l []uint64, width int) {
	t.Helper()
	b, why := bits.Pack(l, width)
	if why != api.OK || !bytes.Equal(b, otherPack(l, width)) {
		t.Fatalf("P3.1: Pack(%x, %d): %x %v, want %x", l, width, b, why, otherPack(l, width))
	}
	if size := bits.Size(len(l), width); len(b) != size {
		t.Fatalf("P3.1: Pack(%x, %d) has %d bytes, Size says %d", l, width, len(b), size)
	}
	back, why := bits.Unpack(b, len(l), width)
	if why != api.OK || !slices.Equal(back, l) {
		t.Fatalf("P3.2: Unpack(%x, %d, %d): %x %v, want %x", b, len(l), width, back, why, l)
	}
}

func TestWidth(t *testing.T) {
	for _, c := range []struct {
		l    []uint64
		want int
	}{
		{nil, 0},
		{[]uint64{}, 0},
		{[]uint64{0}, 0},
		{[]uint64{0, 0, 0}, 0},
		{[]uint64{1}, 1},
		{[]uint64{1, 2}, 2},
		{[]uint64{2, 1}, 2},
		{[]uint64{5, 2}, 3},
		{[]uint64{0, 4, 0}, 3},
		{[]uint64{255, 256, 1}, 9},
		{[]uint64{math.MaxUint64, 0}, 64},
	} {
		if got := bits.Width(c.l); got != c.want {
			t.Errorf("P3.1: Width(%x): %d, want %d", c.l, got, c.want)
		}
	}
	for shift := range 64 {
		p := uint64(1) << shift
		for _, n := range []uint64{p - 1, p, p + 1} {
			if got, want := bits.Width([]uint64{n}), mathbits.Len64(n); got != want {
				t.Errorf("P3.1: Width(%x): %d, want %d", n, got, want)
			}
		}
	}
}

func TestSize(t *testing.T) {
	for _, c := range []struct{ n, width, want int }{
		{0, 0, 0},
		{0, 64, 0},
		{1, 0, 0},
		{most, 0, 0},
		{1, 1, 1},
		{8, 1, 1},
		{9, 1, 2},
		{3, 2, 1},
		{4, 2, 1},
		{5, 2, 2},
		{8, 7, 7},
		{1, 64, 8},
		{3, 64, 24},
		{most - 1, 1, 1 << 21},
		{most, 1, 1 << 21},
		{most, 64, 1 << 27},
		{most + 1, 1, 0},
		{most + 1, 64, 0},
		{math.MaxInt, 64, 0},
		{math.MaxInt, 1, 0},
		{-1, 1, 0},
		{-8, 8, 0},
		{math.MinInt, 64, 0},
		{5, -1, 0},
		{5, 65, 0},
		{5, math.MaxInt, 0},
		{5, math.MinInt, 0},
		{-1, -8, 0},
	} {
		if got := bits.Size(c.n, c.width); got != c.want {
			t.Errorf("P3.1: Size(%d, %d): %d, want %d", c.n, c.width, got, c.want)
		}
	}
	for width := range 65 {
		for n := range 40 {
			if got, want := bits.Size(n, width), int(math.Ceil(float64(n*width)/8)); got != want {
				t.Errorf("P3.1: Size(%d, %d): %d, want %d", n, width, got, want)
			}
		}
	}
}

func TestPackWritesTheDocumentsBytes(t *testing.T) {
	for _, c := range []struct {
		l     []uint64
		width int
		want  string
	}{
		{[]uint64{1, 2, 3}, 2, "\x39"},
		{[]uint64{0, 0}, 0, ""},
		{nil, 0, ""},
		{nil, 5, ""},
		{[]uint64{}, 64, ""},
		{[]uint64{0}, 1, "\x00"},
		{[]uint64{1}, 1, "\x01"},
		{[]uint64{1}, 7, "\x01"},
		{[]uint64{1, 1}, 7, "\x81\x00"},
		{[]uint64{1, 0, 0, 0, 0, 0, 0, 0, 1}, 1, "\x01\x01"},
		{[]uint64{256, 1, 511}, 9, "\x00\x03\xfc\x07"},
		{[]uint64{0x0102030405060708}, 64, "\x08\x07\x06\x05\x04\x03\x02\x01"},
		{[]uint64{math.MaxUint64, 1}, 64, "\xff\xff\xff\xff\xff\xff\xff\xff\x01\x00\x00\x00\x00\x00\x00\x00"},
	} {
		if got, why := bits.Pack(c.l, c.width); why != api.OK || string(got) != c.want {
			t.Errorf("P3.1: Pack(%x, %d): %x %v, want %x", c.l, c.width, got, why, c.want)
		}
	}
}

func TestPackRefuses(t *testing.T) {
	for _, c := range []struct {
		l     []uint64
		width int
	}{
		{[]uint64{4}, 2},
		{[]uint64{0, 0, 4}, 2},
		{[]uint64{4, 0, 0}, 2},
		{[]uint64{1}, 0},
		{[]uint64{math.MaxUint64}, 63},
		{nil, -1},
		{nil, 65},
		{nil, math.MinInt},
		{nil, math.MaxInt},
		{[]uint64{0}, -1},
		{[]uint64{1}, 65},
	} {
		if got, why := bits.Pack(c.l, c.width); why != api.ErrWidth || len(got) != 0 {
			t.Errorf("P3.1: Pack(%x, %d): %x %v, want ErrWidth alone", c.l, c.width, got, why)
		}
	}
	for width := range 64 {
		l := []uint64{0, greatest(width) + 1}
		if _, why := bits.Pack(l, width); why != api.ErrWidth {
			t.Errorf("P3.1: Pack(%x, %d): %v, want ErrWidth", l, width, why)
		}
		if _, why := bits.Pack(l, width+1); why != api.OK {
			t.Errorf("P3.1: Pack(%x, %d): %v, want OK", l, width+1, why)
		}
	}
}

func TestUnpackRefusesInOrder(t *testing.T) {
	for _, c := range []struct {
		b        string
		n, width int
		want     api.Errno
	}{
		{"\x39", 3, 2, api.OK},
		{"", 0, 0, api.OK},
		{"", 0, 64, api.OK},
		{"", 5, 0, api.OK},
		{"", 0, -1, api.ErrWidth},
		{"", 0, 65, api.ErrWidth},
		{"", 0, math.MinInt, api.ErrWidth},
		{"", 0, math.MaxInt, api.ErrWidth},
		{"", -1, 0, api.ErrArg},
		{"", most + 1, 0, api.ErrArg},
		{"", math.MinInt, 64, api.ErrArg},
		{"", math.MaxInt, 64, api.ErrArg},
		{"", most, 1, api.ErrEnd},
		{"", 1, 1, api.ErrEnd},
		{"", 3, 2, api.ErrEnd},
		{"\x01\x02\x03\x04\x05\x06\x07", 1, 64, api.ErrEnd},
		{"\x00", 0, 0, api.ErrTail},
		{"\x00", 0, 64, api.ErrTail},
		{"\x00", 9, 0, api.ErrTail},
		{"\x39\x00", 3, 2, api.ErrTail},
		{"\xff", 1, 2, api.ErrForm},
		{"\x04", 1, 2, api.ErrForm},
		{"\x80", 1, 2, api.ErrForm},
		{"\x40", 3, 2, api.ErrForm},
		{"\xff", 4, 2, api.OK},
		{"\xff\x02", 9, 1, api.ErrForm},
		{"\xff\x01", 9, 1, api.OK},
		// Two at once: the one that is named first.
		{"", -1, -1, api.ErrWidth},
		{"", most + 1, 65, api.ErrWidth},
		{"\x39\xff", 3, 65, api.ErrWidth},
		{"\xff", -1, 2, api.ErrArg},
		{"\xff", most + 1, 1, api.ErrArg},
		{"\xff", 5, 2, api.ErrEnd},
		{"\xff\xff", 1, 2, api.ErrTail},
	} {
		got, why := bits.Unpack([]byte(c.b), c.n, c.width)
		if why != c.want {
			t.Errorf("P3.1: Unpack(%x, %d, %d): %v, want %v", c.b, c.n, c.width, why, c.want)
		}
		if why != api.OK && len(got) != 0 {
			t.Errorf("R3: Unpack(%x, %d, %d): %x beside %v", c.b, c.n, c.width, got, why)
		}
	}
	if _, why := bits.Unpack(nil, 2, 0); why != api.OK {
		t.Errorf("R4: Unpack(nil, 2, 0): %v", why)
	}
}

func TestUnpackAtTheGreatestCount(t *testing.T) {
	if l, why := bits.Unpack(nil, most, 0); why != api.OK || len(l) != most {
		t.Errorf("P3.1: Unpack(nothing, 2^24, 0): %d numbers, %v", len(l), why)
	}
	b := make([]byte, bits.Size(most, 1))
	b[len(b)-1] = 0x80
	l, why := bits.Unpack(b, most, 1)
	if why != api.OK || len(l) != most || slices.Index(l, 1) != most-1 {
		t.Errorf("P3.1: Unpack of 2^24 numbers of one bit: %d numbers, %v", len(l), why)
	}
}

// Pack has no bound of its own: only Size and Unpack do.
func TestPackPastTheGreatestCount(t *testing.T) {
	l := make([]uint64, most+1)
	l[most] = 1
	b, why := bits.Pack(l, 1)
	if why != api.OK || len(b) != most/8+1 || b[most/8] != 1 {
		t.Errorf("P3.1: Pack of 2^24 + 1 numbers: %d bytes, %v", len(b), why)
	}
}

func TestEveryWidth(t *testing.T) {
	for width := range 65 {
		for n := range 20 {
			hold(t, some(int64(n), n, width), width)
			hold(t, slices.Repeat([]uint64{greatest(width)}, n), width)
			hold(t, make([]uint64, n), width)
		}
		// A width above the least that would do.
		hold(t, some(1, 9, width/2), width)
	}
}

func TestEverySizeButTheRightOneIsRefused(t *testing.T) {
	for width := range 65 {
		for n := range 20 {
			size := bits.Size(n, width)
			if size > 0 {
				if _, why := bits.Unpack(make([]byte, size-1), n, width); why != api.ErrEnd {
					t.Errorf("P3.1: Unpack of %d numbers of %d bits, a byte short: %v", n, width, why)
				}
			}
			if _, why := bits.Unpack(make([]byte, size), n, width); why != api.OK {
				t.Errorf("P3.1: Unpack of %d noughts of %d bits: %v", n, width, why)
			}
			if _, why := bits.Unpack(make([]byte, size+1), n, width); why != api.ErrTail {
				t.Errorf("P3.1: Unpack of %d numbers of %d bits, a byte more: %v", n, width, why)
			}
		}
	}
}

func TestEveryBitCounts(t *testing.T) {
	for width := range 65 {
		for n := range 12 {
			for at := range 8 * bits.Size(n, width) {
				checkBit(t, n, width, at)
			}
		}
	}
}

// checkBit fails if the bit at at is not in its number, or, being left, is not refused.
func checkBit(t *testing.T, n, width, at int) {
	t.Helper()
	b := make([]byte, bits.Size(n, width))
	b[at/8] = 1 << (at % 8)
	l, why := bits.Unpack(b, n, width)
	if at >= n*width {
		if why != api.ErrForm || len(l) != 0 {
			t.Errorf("P3.1: Unpack(%x, %d, %d): %x %v, want ErrForm", b, n, width, l, why)
		}
		return
	}
	want := make([]uint64, n)
	want[at/width] = 1 << (at % width)
	if why != api.OK || !slices.Equal(l, want) {
		t.Errorf("P3.1: Unpack(%x, %d, %d): %x %v, want %x", b, n, width, l, why, want)
	}
}

func TestWhatIsHandedInStaysAsItWas(t *testing.T) {
	room := some(7, 64, 9)
	for n := range 32 {
		before := slices.Clone(room)
		if got, want := bits.Width(room[:n]), bits.Width(before[:n:n]); got != want {
			t.Errorf("R5: Width read the room behind %d numbers: %d, want %d", n, got, want)
		}
		b, _ := bits.Pack(room[:n], 9)
		if !bytes.Equal(b, otherPack(before[:n], 9)) {
			t.Errorf("R5: Pack of %d numbers with room behind them: %x", n, b)
		}
		if !slices.Equal(room, before) {
			t.Fatalf("R2: %d numbers that were handed in were changed", n)
		}
		full := append(slices.Clone(b), bytes.Repeat([]byte{0xa5}, 64)...)
		kept := bytes.Clone(full)
		l, why := bits.Unpack(full[:len(b)], n, 9)
		if why != api.OK || !slices.Equal(l, before[:n]) {
			t.Errorf("R5: Unpack of %d bytes with room behind them: %x %v", len(b), l, why)
		}
		if !bytes.Equal(full, kept) {
			t.Fatalf("R2: %d bytes that were handed in were changed", len(b))
		}
	}
}

func TestAnswersAreNewMemory(t *testing.T) {
	l := []uint64{1, 2, 3}
	first, _ := bits.Pack(l, 2)
	second, _ := bits.Pack(l, 2)
	clear(first[:cap(first)])
	if string(second) != "\x39" {
		t.Errorf("R2: two answers of Pack share memory: %x", second)
	}
	one, _ := bits.Unpack(second, 3, 2)
	two, _ := bits.Unpack(second, 3, 2)
	clear(one[:cap(one)])
	if !slices.Equal(two, l) || string(second) != "\x39" {
		t.Errorf("R2: an answer of Unpack shares memory: %x %x", two, second)
	}
}

func FuzzUnpack(f *testing.F) {
	f.Add([]byte("\x39"), 3, 2)
	f.Add([]byte("\xff"), 1, 2)
	f.Fuzz(func(t *testing.T, b []byte, n, width int) {
		l, why := bits.Unpack(b, n, width)
		if why != api.OK {
			return
		}
		again, why := bits.Pack(l, width)
		if why != api.OK || !bytes.Equal(again, b) {
			t.Errorf("P3.2: Unpack(%x, %d, %d) is packed to %x %v", b, n, width, again, why)
		}
	})
}
