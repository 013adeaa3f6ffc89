package bloom_test

import (
	"bytes"
	"encoding/binary"
	"fmt"
	"hash/fnv"
	"math"
	"math/big"
	"math/rand"
	"slices"
	"strconv"
	"strings"
	"testing"

	"columbarium/api"
	"columbarium/bloom"
	"columbarium/sum"
)

const (
	least = 64
	most  = 1 << 16
	room  = 8 // texts behind a list's length
)

// unlike answers n texts of which no two are like.
func unlike(n int) []string {
	l := make([]string, n)
	for i := range l {
		l[i] = "text " + strconv.Itoa(i)
	}
	return l
}

// empty answers a filter of so many bits, none of them set.
func empty(size int) bloom.Filter {
	return bloom.Filter{Bits: size, B: make([]byte, size/8)}
}

// anyOf answers a filter of so many bits, some of them set.
func anyOf(r *rand.Rand, size int) bloom.Filter {
	f := empty(size)
	r.Read(f.B)
	return f
}

func isZero(f bloom.Filter) bool {
	return f.Bits == 0 && len(f.B) == 0
}

func same(f, g bloom.Filter) bool {
	return f.Bits == g.Bits && bytes.Equal(f.B, g.B)
}

// filled answers l's texts with known ones in the room behind them.
func filled(l []string) []string {
	out := append([]string{}, l...)
	for i := range room {
		out = append(out, "behind "+strconv.Itoa(i))
	}
	return out[:len(l)]
}

// untouched fails if a call changed what filled(l) made.
func untouched(t *testing.T, given, l []string) {
	t.Helper()
	if !slices.Equal(given[:len(l)+room], filled(l)[:len(l)+room]) {
		t.Errorf("R2: what was handed in as %.60q was changed: %.60q", l, given[:len(l)+room])
	}
}

// filledBytes answers s's bytes with bytes behind them that would fill up a filter.
func filledBytes(s string) []byte {
	b := bytes.Repeat([]byte{0xff}, len(s)+room)
	copy(b, s)
	return b[:len(s)]
}

func untouchedBytes(t *testing.T, b []byte, s string) {
	t.Helper()
	if !bytes.Equal(b[:len(s)+room], filledBytes(s)[:len(s)+room]) {
		t.Errorf("R2: what was handed in as %.40x was changed", s)
	}
}

// otherPlaces is another reckoning of a text's four bits: the library's FNV, and numbers that can't wrap round.
func otherPlaces(s string, size int) []int {
	sum := fnv.New64a()
	sum.Write([]byte(s))
	h := new(big.Int).SetUint64(sum.Sum64())
	half := new(big.Int).Lsh(big.NewInt(1), 32)
	b, a := new(big.Int).QuoRem(h, half, new(big.Int))
	b.SetBit(b, 0, 1)
	var l []int
	for range 4 {
		l = append(l, int(new(big.Int).Mod(a, big.NewInt(int64(size))).Int64()))
		a.Add(a, b)
	}
	return l
}

// otherBuild is another reckoning of Build: texts are told apart by a map, and bits are kept as one great number.
func otherBuild(l []string) bloom.Filter {
	seen := map[string]bool{}
	for _, s := range l {
		seen[s] = true
	}
	size := 64
	for _, more := range []int{128, 256, 512, 1024, 2048, 4096, 8192, 16384, 32768, 65536} {
		if len(seen)*8 > size {
			size = more
		}
	}
	all := new(big.Int)
	for s := range seen {
		for _, k := range otherPlaces(s, size) {
			all.SetBit(all, k, 1)
		}
	}
	b := all.FillBytes(make([]byte, size/8))
	slices.Reverse(b) // the lowest bits first
	return bloom.Filter{Bits: size, B: b}
}

// otherRight is another reckoning of Right.
func otherRight(f bloom.Filter) bool {
	return slices.Contains([]int{64, 128, 256, 512, 1024, 2048, 4096, 8192, 16384, 32768, 65536}, f.Bits) && len(f.B)*8 == f.Bits
}

// otherMay is another reckoning of May: the four bits are taken out one by one.
func otherMay(f bloom.Filter, s string) bool {
	if !otherRight(f) {
		return true
	}
	for _, k := range otherPlaces(s, f.Bits) {
		if int(f.B[k/8])/[]int{1, 2, 4, 8, 16, 32, 64, 128}[k%8]%2 == 0 {
			return false
		}
	}
	return true
}

// head answers a number as it is written, by the library.
func head(n uint64) string {
	return string(binary.AppendUvarint(nil, n))
}

// written answers f as Encode writes it, whether it is Right or not, by the library.
func written(f bloom.Filter) string {
	return head(uint64(f.Bits)) + string(f.B)
}

// otherDecode is another reckoning of Decode.
func otherDecode(s string, at int) (bloom.Filter, int, api.Errno) {
	none := bloom.Filter{}
	if at < 0 || at > len(s) {
		return none, 0, api.ErrArg
	}
	rest := s[at:]
	if !strings.ContainsFunc(rest, func(c rune) bool { return c < 128 }) {
		return none, 0, api.ErrEnd
	}
	// Uvarint takes more than one writing of a number.
	n, size := binary.Uvarint([]byte(rest))
	if size <= 0 || head(n) != rest[:size] {
		return none, 0, api.ErrForm
	}
	if n != 64 && n != 128 && n != 256 && n != 512 && n != 1024 && n != 2048 && n != 4096 && n != 8192 && n != 16384 && n != 32768 && n != 65536 {
		return none, 0, api.ErrForm
	}
	rest = rest[size:]
	if len(rest)*8 < int(n) {
		return none, 0, api.ErrEnd
	}
	return bloom.Filter{Bits: int(n), B: []byte(rest[:n/8])}, at + size + int(n/8), api.OK
}

// built fails unless Build of l answers what the other reckoning does, and May every text of l.
func built(t *testing.T, name string, l []string) bloom.Filter {
	t.Helper()
	given := filled(l)
	f, want := bloom.Build(given), otherBuild(l)
	if !same(f, want) {
		t.Errorf("P9.1: Build(%.60q), %s: %d bits, %.60x, want %d bits, %.60x", l, name, f.Bits, f.B, want.Bits, want.B)
	}
	untouched(t, given, l)
	if !bloom.Right(f) {
		t.Errorf("P9.1: Build(%.60q), %s, is not Right", l, name)
	}
	for _, s := range l {
		if !bloom.May(f, s) {
			t.Errorf("P9.3: %q was built in, %s, and may not be", s, name)
		}
	}
	return f
}

// asked fails unless May of f and s answers that.
func asked(t *testing.T, name string, f bloom.Filter, s string, want bool) {
	t.Helper()
	kept := string(f.B)
	g := bloom.Filter{Bits: f.Bits, B: filledBytes(kept)}
	if got := bloom.May(g, s); got != want {
		t.Errorf("P9.1: May(%d bits, %.40x, %q), %s: %v", f.Bits, f.B, s, name, got)
	}
	untouchedBytes(t, g.B, kept)
}

// right fails unless Right and Encode of f answer that, and what is written is read again.
func right(t *testing.T, name string, f bloom.Filter, want bool) {
	t.Helper()
	kept := string(f.B)
	g := bloom.Filter{Bits: f.Bits, B: filledBytes(kept)}
	if got := bloom.Right(g); got != want {
		t.Errorf("P9.1: Right(%d bits, %d bytes), %s: %v", f.Bits, len(f.B), name, got)
	}
	b, why := bloom.Encode(g)
	untouchedBytes(t, g.B, kept)
	if !want {
		if len(b) != 0 || why != api.ErrForm {
			t.Errorf("P9.2: Encode(%d bits, %d bytes), %s: %.40x, %d, want ErrForm", f.Bits, len(f.B), name, b, why)
		}
		return
	}
	s := written(f)
	if string(b) != s || why != api.OK {
		t.Errorf("P9.2: Encode(%d bits, %.40x), %s: %.40x, %d, want %.40x", f.Bits, f.B, name, b, why, s)
	}
	decoded(t, name, s, 0, f, len(s), api.OK)
	decoded(t, name+", behind others", "zz"+s, 2, f, len(s)+2, api.OK)
	decoded(t, name+", among others", "\x80"+s+"\x40", 1, f, len(s)+1, api.OK)
}

// decoded fails unless Decode of s at at answers that.
func decoded(t *testing.T, name, s string, at int, want bloom.Filter, wantEnd int, wantWhy api.Errno) {
	t.Helper()
	b := filledBytes(s)
	f, end, why := bloom.Decode(b, at)
	if !same(f, want) || end != wantEnd || why != wantWhy {
		t.Errorf("P9.2: Decode(%.40x, %d), %s: %d bits, %.40x, %d, %d, want %d bits, %.40x, %d, %d", s, at, name, f.Bits, f.B, end, why, want.Bits, want.B, wantEnd, wantWhy)
	}
	untouchedBytes(t, b, s)
}

// refused fails unless Decode of s at at answers that refusal and nothing else.
func refused(t *testing.T, name, s string, at int, want api.Errno) {
	t.Helper()
	decoded(t, name, s, at, bloom.Filter{}, 0, want)
}

func TestBuildOfNone(t *testing.T) {
	for _, l := range [][]string{nil, {}, make([]string, 0, 4)} {
		f := bloom.Build(l)
		if f.Bits != 64 || string(f.B) != "\x00\x00\x00\x00\x00\x00\x00\x00" {
			t.Errorf("P9.1: Build of none: %d bits, %x", f.Bits, f.B)
		}
		for _, s := range []string{"", "a", "b", "\x00", "\xff", strings.Repeat("x", 40)} {
			asked(t, "an empty filter", f, s, false)
		}
	}
	built(t, "none", nil)
}

func TestTheBitsOfAText(t *testing.T) {
	for _, c := range []struct {
		s    string
		want string
	}{
		// af63dc4c 8601ec8c: 8c = 12, and then steps of 4d = 13 modulo 64: 12, 25, 38, 51.
		{"a", "\x00\x10\x00\x02\x40\x00\x08\x00"},
		// cbf29ce4 84222325: 25 = 37, and then steps of e5 = 37 modulo 64, the lowest bit being set: 37, 10, 47, 20.
		{"", "\x00\x04\x10\x00\x20\x80\x00\x00"},
	} {
		f := bloom.Build([]string{c.s})
		if f.Bits != 64 || string(f.B) != c.want {
			t.Errorf("P9.1: Build(%q): %d bits, %x, want %x", c.s, f.Bits, f.B, c.want)
		}
		asked(t, "all four bits", bloom.Filter{Bits: 64, B: []byte(c.want)}, c.s, true)
	}
}

func TestTheBitsOfATextByItsSum(t *testing.T) {
	for _, s := range []string{"", "a", "b", "aa", "text", "\x00", "\x7f", "\x80", "\xff\xfe", "\xc3\xa4", strings.Repeat("x", 40), strings.Repeat("x", 1000)} {
		h := sum.Fnv(s)
		a, b := h%(1<<32), h/(1<<32)
		if b%2 == 0 {
			b++
		}
		for size := uint64(least); size <= most; size *= 2 {
			f := empty(int(size))
			for i := range uint64(4) {
				if asked(t, "a bit lacks", f, s, false); t.Failed() {
					return
				}
				k := (a + i*b) % size
				f.B[k/8] |= 1 << (k % 8)
			}
			asked(t, "all four bits", f, s, true)
			for k := range f.B {
				f.B[k] = ^f.B[k]
			}
			asked(t, "all bits but the four", f, s, false)
		}
	}
}

func TestEachOfTheFourBitsIsAsked(t *testing.T) {
	for _, s := range []string{"", "a", "text 1", "\x80\xff"} {
		for size := least; size <= most; size *= 2 {
			for _, k := range otherPlaces(s, size) {
				f := empty(size)
				for i := range f.B {
					f.B[i] = 0xff
				}
				asked(t, "all bits", f, s, true)
				f.B[k/8] ^= 1 << (k % 8)
				asked(t, "all bits but one of the four", f, s, false)
			}
		}
	}
}

func TestHowManyBits(t *testing.T) {
	for _, c := range []struct{ texts, want int }{
		{0, 64}, {1, 64}, {7, 64}, {8, 64}, {9, 128}, {15, 128}, {16, 128}, {17, 256}, {31, 256}, {32, 256}, {33, 512},
		{64, 512}, {65, 1024}, {128, 1024}, {129, 2048}, {1024, 8192}, {1025, 16384}, {2048, 16384}, {2049, 32768},
		{4095, 32768}, {4096, 32768}, {4097, 65536}, {8191, 65536}, {8192, 65536}, {8193, 65536}, {16384, 65536}, {16385, 65536},
	} {
		l := unlike(c.texts)
		f := built(t, "unlike ones", l)
		if f.Bits != c.want || len(f.B) != c.want/8 {
			t.Errorf("P9.1: Build of %d unlike texts: %d bits, %d bytes, want %d bits", c.texts, f.Bits, len(f.B), c.want)
		}
		for name, again := range map[string][]string{
			"twice":             append(slices.Clone(l), l...),
			"each one twice":    eachTwice(l),
			"from the last one": backwards(l),
			"the last one more": append(slices.Clone(l), l[max(0, len(l)-1):]...),
		} {
			if g := bloom.Build(again); !same(f, g) {
				t.Errorf("P9.1: Build of %d unlike texts, %s: %d bits, %.40x, want %d bits, %.40x", c.texts, name, g.Bits, g.B, f.Bits, f.B)
			}
		}
	}
}

func eachTwice(l []string) []string {
	var out []string
	for _, s := range l {
		out = append(out, s, s)
	}
	return out
}

func backwards(l []string) []string {
	out := slices.Clone(l)
	slices.Reverse(out)
	return out
}

func TestLikeAndUnlikeTexts(t *testing.T) {
	one := bloom.Build([]string{"a"})
	for _, n := range []int{2, 8, 9, 17, 10000} {
		if f := built(t, "like ones", slices.Repeat([]string{"a"}, n)); !same(f, one) {
			t.Errorf("P9.1: Build of a, %d times: %d bits, %x, want %x", n, f.Bits, f.B, one.B)
		}
	}
	for name, l := range map[string][]string{
		"the empty text":                {""},
		"the empty text, twice":         {"", ""},
		"the empty text among others":   {"a", "", "b", ""},
		"beginnings of one another":     {"", "a", "aa", "aaa", "aaaa", "aaaaa", "aaaaaa", "aaaaaaa", "aaaaaaaa"},
		"bytes of 0":                    {"\x00", "\x00\x00", "", "a\x00", "a"},
		"bytes above 127":               {"\x80", "\xff", "\xc3\xa4", "\xc3", "\xa4", "\xef\xbf\xbd", "\xfe", "\xfd", "\xfc"},
		"large and small letters":       {"A", "a", "B", "b", "C", "c", "D", "d", "E"},
		"a blank behind":                {"a", "a ", "a  ", " a", "b", "b ", "b  ", " b", "c"},
		"texts above MaxText":           {strings.Repeat("x", 40), strings.Repeat("x", 41), strings.Repeat("x", 100000)},
		"nine, the first and last like": {"a", "b", "c", "d", "e", "f", "g", "h", "a"},
	} {
		built(t, name, l)
	}
	// A byte that is no rune is told apart from another one.
	nine := []string{"\x80", "\x81", "\x82", "\x83", "\x84", "\x85", "\x86", "\x87", "\x88"}
	if f := bloom.Build(nine); f.Bits != 128 {
		t.Errorf("R5: Build of nine texts of bytes above 127: %d bits", f.Bits)
	}
	if f := bloom.Build([]string{"A", "a", "B", "b", "C", "c", "D", "d", "E"}); f.Bits != 128 {
		t.Errorf("R5: Build of nine letters: %d bits", f.Bits)
	}
}

func TestNoOtherBitsAreSet(t *testing.T) {
	for _, n := range []int{1, 2, 5, 9, 100} {
		l := unlike(n)
		f := bloom.Build(l)
		for _, s := range l {
			for _, k := range otherPlaces(s, f.Bits) {
				f.B[k/8] &^= 1 << (k % 8)
			}
		}
		if strings.Trim(string(f.B), "\x00") != "" {
			t.Errorf("P9.1: Build of %d texts sets other bits: %x", n, f.B)
		}
	}
}

func TestMayIsSeldomWrong(t *testing.T) {
	f := bloom.Build(unlike(8))
	wrong := 0
	for i := range 1000 {
		s := "other " + strconv.Itoa(i)
		asked(t, "others", f, s, otherMay(f, s))
		if bloom.May(f, s) {
			wrong++
		}
	}
	if wrong > 300 {
		t.Errorf("P9.1: of 1000 texts that were not built in %d may be", wrong)
	}
}

// randomText answers a short text, so that like ones come often, or one of any bytes.
func randomText(r *rand.Rand) string {
	b := make([]byte, r.Intn(4))
	if r.Intn(8) == 0 {
		b = make([]byte, r.Intn(60))
	}
	r.Read(b)
	if r.Intn(2) == 0 {
		for i := range b {
			b[i] = "ab\x80"[b[i]%3]
		}
	}
	return string(b)
}

func TestListsOfEveryKind(t *testing.T) {
	r := rand.New(rand.NewSource(9))
	for range 3000 {
		l := make([]string, r.Intn(40))
		for i := range l {
			l[i] = randomText(r)
		}
		f := built(t, "any texts", l)
		s := randomText(r)
		asked(t, "any text", f, s, otherMay(f, s))
		r.Shuffle(len(l), func(i, j int) { l[i], l[j] = l[j], l[i] })
		if g := bloom.Build(l); !same(f, g) {
			t.Errorf("P9.1: Build(%q) hangs on the order", l)
		}
	}
}

func TestFiltersOfEveryKind(t *testing.T) {
	r := rand.New(rand.NewSource(10))
	for range 3000 {
		f := anyOf(r, least<<r.Intn(6))
		for range 3 {
			s := randomText(r)
			asked(t, "any filter", f, s, otherMay(f, s))
		}
		right(t, "any filter", f, true)
	}
}

// What is built in stays in, whatever else is built in: more texts need more bits, and a text's bits are others then.
func TestWhatWasBuiltInMayBe(t *testing.T) {
	l := []string{"here", "", "\xff"}
	for i := range 1200 {
		f := bloom.Build(l)
		for _, s := range []string{"here", "", "\xff", l[len(l)-1], l[len(l)/2]} {
			if !bloom.May(f, s) {
				t.Fatalf("P9.3: %q was built in with %d others, and may not be", s, len(l)-1)
			}
		}
		l = append(l, "other "+strconv.Itoa(i))
	}
}

func TestRight(t *testing.T) {
	for size := least; size <= most; size *= 2 {
		right(t, "none set", empty(size), true)
		for _, f := range []bloom.Filter{
			{Bits: size},
			{Bits: size, B: []byte{}},
			{Bits: size, B: make([]byte, size/8-1)},
			{Bits: size, B: make([]byte, size/8+1)},
			{Bits: size, B: make([]byte, size)},
			{Bits: size, B: make([]byte, size/16)},
			{Bits: size, B: make([]byte, size/4)},
			{Bits: size - 1, B: make([]byte, size/8)},
			{Bits: size + 1, B: make([]byte, size/8)},
			{Bits: size + 8, B: make([]byte, size/8+1)},
			{Bits: size - 8, B: make([]byte, size/8-1)},
			{Bits: size + size/2, B: make([]byte, (size+size/2)/8)},
			{Bits: -size, B: make([]byte, size/8)},
			{Bits: -size},
		} {
			right(t, "not Right", f, false)
			asked(t, "not Right", f, "a", true)
			asked(t, "not Right", f, "", true)
		}
	}
	for _, size := range []int{math.MinInt, -1 << 32, -most, -64, -8, -1, 0, 1, 2, 4, 7, 8, 16, 31, 32, 33, 63, 65, 96, 127, most - 1, most + 1, most + least, 2 * most, 1 << 31, 1 << 32, 1<<32 + least, 1 << 40, 1 << 62, math.MaxInt} {
		for _, n := range []int{0, 1, 4, 7, 8, 9, 12, most / 8, 2 * most / 8} {
			f := bloom.Filter{Bits: size, B: make([]byte, n)}
			right(t, "other Bits", f, false)
			asked(t, "other Bits", f, "a", true)
		}
	}
	right(t, "the zero value", bloom.Filter{}, false)
	asked(t, "the zero value", bloom.Filter{}, "", true)
}

func TestRightOfAllSmallFilters(t *testing.T) {
	for size := -70; size <= 600; size++ {
		for _, n := range []int{size/8 - 1, size / 8, size/8 + 1} {
			if n >= 0 {
				f := bloom.Filter{Bits: size, B: make([]byte, n)}
				right(t, "any Bits", f, otherRight(f))
				asked(t, "any Bits", f, "a", !otherRight(f))
			}
		}
	}
}

func TestEncode(t *testing.T) {
	for _, c := range []struct {
		l    []string
		want string
	}{
		{nil, "\x40\x00\x00\x00\x00\x00\x00\x00\x00"},
		{[]string{"a"}, "\x40\x00\x10\x00\x02\x40\x00\x08\x00"},
		{[]string{"a", "a"}, "\x40\x00\x10\x00\x02\x40\x00\x08\x00"},
	} {
		b, why := bloom.Encode(bloom.Build(c.l))
		if string(b) != c.want || why != api.OK {
			t.Errorf("P9.2: Encode of Build(%q): %x, %d, want %x", c.l, b, why, c.want)
		}
	}
	for _, n := range []int{0, 1, 8, 9, 16, 17, 100, 8192, 8193} {
		right(t, "built of unlike texts", bloom.Build(unlike(n)), true)
	}
}

func TestReadAndAsked(t *testing.T) {
	for _, n := range []int{0, 1, 8, 9, 33, 500} {
		l := unlike(n)
		b, _ := bloom.Encode(bloom.Build(l))
		f, end, why := bloom.Decode(append([]byte("zz"), b...), 2)
		if end != len(b)+2 || why != api.OK {
			t.Errorf("P9.2: Decode of a filter of %d texts: %d, %d", n, end, why)
		}
		for _, s := range l {
			if !bloom.May(f, s) {
				t.Errorf("P9.3: %q was built in, written and read, and may not be", s)
			}
		}
	}
}

func TestDecodesRefusals(t *testing.T) {
	long := strings.Repeat("x", 1<<14)
	for _, c := range []struct {
		name, s string
		want    api.Errno
	}{
		{"no bytes", "", api.ErrEnd},
		{"Bits cut off", "\x80", api.ErrEnd},
		{"Bits cut off, too long", strings.Repeat("\x80", 30), api.ErrEnd},
		{"Bits in a longer writing", "\xc0\x00" + long, api.ErrForm},
		{"Bits in a longer writing, bytes lack", "\xc0\x00", api.ErrForm},
		{"Bits of more than 64 bits", strings.Repeat("\xff", 9) + "\x02" + long, api.ErrForm},
		{"Bits of eleven bytes", strings.Repeat("\x80", 10) + "\x01" + long, api.ErrForm},
		{"0 Bits", "\x00" + long, api.ErrForm},
		{"0 Bits, nothing behind", "\x00", api.ErrForm},
		{"1 Bit", "\x01" + long, api.ErrForm},
		{"8 Bits", "\x08" + long, api.ErrForm},
		{"32 Bits", "\x20" + long, api.ErrForm},
		{"32 Bits, as many bytes", "\x20abcd", api.ErrForm},
		{"63 Bits", "\x3f" + long, api.ErrForm},
		{"65 Bits", "\x41" + long, api.ErrForm},
		{"65 Bits, bytes lack", "\x41", api.ErrForm},
		{"96 Bits", "\x60" + long, api.ErrForm},
		{"96 Bits, bytes lack", "\x60abc", api.ErrForm},
		{"2^16 - 1 Bits", head(most-1) + long, api.ErrForm},
		{"2^16 + 1 Bits", head(most+1) + long, api.ErrForm},
		{"2^17 Bits", head(2*most) + long, api.ErrForm},
		{"2^17 Bits, bytes lack", head(2 * most), api.ErrForm},
		{"2^31 Bits", head(1<<31) + long, api.ErrForm},
		{"2^32 Bits", head(1<<32) + long, api.ErrForm},
		{"2^32 + 64 Bits", head(1<<32+64) + long, api.ErrForm},
		{"2^62 Bits", head(1<<62) + long, api.ErrForm},
		{"2^63 - 1 Bits", head(math.MaxInt64) + long, api.ErrForm},
		{"2^63 Bits", head(1<<63) + long, api.ErrForm},
		{"2^63 Bits, bytes lack", head(1 << 63), api.ErrForm},
		{"2^63 + 64 Bits", head(1<<63+64) + long, api.ErrForm},
		{"2^64 - 64 Bits", head(math.MaxUint64-63) + long, api.ErrForm},
		{"2^64 - 1 Bits", head(math.MaxUint64) + long, api.ErrForm},
		{"64 Bits, no bytes", "\x40", api.ErrEnd},
		{"64 Bits, one byte lacks", "\x401234567", api.ErrEnd},
		{"128 Bits, no bytes", "\x80\x01", api.ErrEnd},
		{"128 Bits, one byte lacks", "\x80\x01" + long[:15], api.ErrEnd},
		{"2^16 Bits, no bytes", head(most), api.ErrEnd},
		{"2^16 Bits, one byte lacks", head(most) + long[:most/8-1], api.ErrEnd},
	} {
		refused(t, c.name, c.s, 0, c.want)
		refused(t, c.name+", behind others", "zz"+c.s, 2, c.want)
		refused(t, c.name+", behind a filter", "\x4012345678"+c.s, 9, c.want)
	}
	decoded(t, "64 Bits", "\x4012345678", 0, bloom.Filter{Bits: 64, B: []byte("12345678")}, 9, api.OK)
	decoded(t, "64 Bits, one byte more", "\x40123456789", 0, bloom.Filter{Bits: 64, B: []byte("12345678")}, 9, api.OK)
	decoded(t, "64 Bits, a filter behind it", "\x4012345678\x40abcdefgh", 0, bloom.Filter{Bits: 64, B: []byte("12345678")}, 9, api.OK)
	decoded(t, "2^16 Bits", head(most)+long, 0, bloom.Filter{Bits: most, B: []byte(long[:most/8])}, most/8+3, api.OK)
}

func TestDecodesPlaces(t *testing.T) {
	f := bloom.Build([]string{"a"})
	s := written(f)
	for _, at := range []int{math.MinInt, -2, -1, len(s) + 1, len(s) + 2, len(s) + room, len(s) + room + 1, math.MaxInt} {
		refused(t, "a place that is none", s, at, api.ErrArg)
		refused(t, "a place that is none, wrong bytes", "\x00\x80"+s[2:], at, api.ErrArg)
	}
	refused(t, "the end", s, len(s), api.ErrEnd)
	decoded(t, "the beginning", s, 0, f, len(s), api.OK)
	refused(t, "a place behind wrong bytes", "\x80", 2, api.ErrArg)
	refused(t, "a place below 0, no bytes", "", -1, api.ErrArg)
	refused(t, "a place behind no bytes", "", 1, api.ErrArg)
	for _, b := range [][]byte{nil, {}} {
		if f, end, why := bloom.Decode(b, 0); !isZero(f) || end != 0 || why != api.ErrEnd {
			t.Errorf("R4: Decode of no bytes: %#v, %d, %d", f, end, why)
		}
		if f, end, why := bloom.Decode(b, 1); !isZero(f) || end != 0 || why != api.ErrArg {
			t.Errorf("R5: Decode of no bytes at 1: %#v, %d, %d", f, end, why)
		}
	}
}

func TestACutIsTold(t *testing.T) {
	for _, n := range []int{0, 1, 9, 40, 8192} {
		b, why := bloom.Encode(bloom.Build(unlike(n)))
		if why != api.OK {
			t.Fatalf("P9.2: Encode of %d texts: %d", n, why)
		}
		for k := range b {
			f, end, why := bloom.Decode(b[:k], 0)
			if !isZero(f) || end != 0 || why != api.ErrEnd {
				t.Errorf("P9.2: Decode of %d of %d bytes: %d bits, %d, %d", k, len(b), f.Bits, end, why)
			}
		}
		refused(t, "cut, behind others", "zz"+string(b[:len(b)-1]), 2, api.ErrEnd)
	}
}

func TestFiltersOneBehindTheOther(t *testing.T) {
	var l []bloom.Filter
	var b []byte
	for _, n := range []int{1, 0, 17, 9, 3} {
		f := bloom.Build(unlike(n))
		one, _ := bloom.Encode(f)
		l = append(l, f)
		b = append(b, one...)
	}
	at := 0
	for i, want := range l {
		f, end, why := bloom.Decode(b, at)
		if !same(f, want) || why != api.OK {
			t.Fatalf("P9.2: filter %d: %d bits, %x, %d, want %d bits, %x", i, f.Bits, f.B, why, want.Bits, want.B)
		}
		at = end
	}
	if at != len(b) {
		t.Errorf("P9.2: the last filter ends at %d of %d", at, len(b))
	}
}

// holdBytes fails unless s is read as the other reckoning reads it, and written again as it was.
func holdBytes(t *testing.T, s string, at int) {
	t.Helper()
	want, wantEnd, wantWhy := otherDecode(s, at)
	decoded(t, "any bytes", s, at, want, wantEnd, wantWhy)
	f, end, why := bloom.Decode([]byte(s), at)
	if why != api.OK {
		return
	}
	if b, why := bloom.Encode(f); why != api.OK || string(b) != s[at:end] {
		t.Errorf("P9.2: Encode of what was read of %.40x at %d: %.40x, %d", s, at, b, why)
	}
}

func TestBytesOfEveryKind(t *testing.T) {
	r := rand.New(rand.NewSource(11))
	pieces := []string{"\x00", "\x20", "\x3f", "\x40", "\x40", "\x41", "\x60", "\x80", "\x80\x00", "\x80\x01", "\x80\x02", "\x80\x80\x04", "\x80\x80\x08", "\xc0\x00", "1234567", "12345678", strings.Repeat("\xff", 16), strings.Repeat("x", 40), head(1 << 63), head(math.MaxUint64)}
	for range 60000 {
		var s string
		for range r.Intn(6) {
			s += pieces[r.Intn(len(pieces))]
		}
		if r.Intn(4) == 0 {
			s = s[:r.Intn(len(s)+1)]
		}
		holdBytes(t, s, 0)
		holdBytes(t, s, r.Intn(len(s)+4)-2)
		holdBytes(t, "\x40"+s, 0)
	}
	for a := range 256 {
		for b := range 256 {
			holdBytes(t, string([]byte{byte(a), byte(b)}), 0)
			holdBytes(t, string([]byte{byte(a), byte(b)})+strings.Repeat("x", 40), 0)
			holdBytes(t, string([]byte{0x80, byte(a), byte(b)})+strings.Repeat("x", 1<<13), 0)
		}
	}
}

func FuzzDecode(f *testing.F) {
	f.Add([]byte(written(bloom.Build([]string{"a"}))), 0)
	f.Add([]byte("zz"+written(bloom.Build(unlike(9)))), 2)
	f.Add([]byte(head(2*most)), 0)
	f.Add([]byte("\x41123456789"), 0)
	f.Add([]byte("\xc0\x0012345678"), 0)
	f.Fuzz(func(t *testing.T, b []byte, at int) {
		holdBytes(t, string(b), at)
	})
}

func FuzzFilters(f *testing.F) {
	f.Add(64, []byte("12345678"), "a")
	f.Add(64, []byte("1234567"), "a")
	f.Add(65, []byte("12345678"), "")
	f.Add(-64, []byte{}, "\xff")
	f.Fuzz(func(t *testing.T, size int, b []byte, s string) {
		g := bloom.Filter{Bits: size, B: b}
		right(t, "any filter", g, otherRight(g))
		asked(t, "any filter", g, s, otherMay(g, s))
	})
}

func FuzzBuild(f *testing.F) {
	f.Add("a b c", "a")
	f.Add("1 2 3 4 5 6 7 8 9", "10")
	f.Add("", "")
	f.Fuzz(func(t *testing.T, all, other string) {
		g := built(t, "any texts", strings.Split(all, " "))
		asked(t, "any text", g, other, otherMay(g, other))
	})
}

// scribble overwrites all of l's memory, its spare room too.
func scribble[T any](l []T, with T) {
	for i := range l[:cap(l)] {
		l[:cap(l)][i] = with
	}
}

func TestAnswersAreNewMemory(t *testing.T) {
	l := []string{"a"}
	want := otherBuild(l)
	given := filled(l)
	first, second := bloom.Build(given), bloom.Build(given)
	scribble(given, "b")
	scribble(first.B, 0x11)
	if !same(second, want) {
		t.Errorf("R2: Build's answer changes with another answer or what was handed in: %x", second.B)
	}
	none, again := bloom.Build(nil), bloom.Build(nil)
	scribble(none.B, 0x11)
	if !same(again, empty(64)) || !same(bloom.Build(nil), empty(64)) {
		t.Errorf("R2: Build's answer of none changes with another answer: %x", again.B)
	}

	f := bloom.Filter{Bits: 64, B: filledBytes(string(want.B))}
	one, _ := bloom.Encode(f)
	two, _ := bloom.Encode(f)
	scribble(one, 0x11)
	if !same(f, want) {
		t.Errorf("R2: what was handed to Encode changes with its answer: %x", f.B)
	}
	scribble(f.B, 0x22)
	if string(two) != written(want) {
		t.Errorf("R2: Encode's answer changes with another answer or what was handed in: %x", two)
	}

	b := filledBytes("zz" + written(want))
	got, _, _ := bloom.Decode(b, 2)
	other, _, _ := bloom.Decode(b, 2)
	scribble(got.B, 0x11)
	untouchedBytes(t, b, "zz"+written(want))
	scribble(b, 0x22)
	if !same(other, want) {
		t.Errorf("R2: Decode's answer changes with another answer or what was handed in: %x", other.B)
	}
}

func TestLongLists(t *testing.T) {
	const n = 1 << 20
	l := make([]string, n)
	for i := range l {
		l[i] = strconv.Itoa(i * 7919 % n / 2)
	}
	f := bloom.Build(l)
	if f.Bits != most || !bloom.Right(f) {
		t.Errorf("P9.1: Build of %d texts: %d bits", n, f.Bits)
	}
	for _, s := range l {
		if !bloom.May(f, s) {
			t.Fatalf("P9.3: %q was built in, and may not be", s)
		}
	}
	// Many texts, few of them unlike: the like ones are not counted again.
	for i := range l {
		l[i] = strconv.Itoa(i % 9)
	}
	if f := bloom.Build(l); f.Bits != 128 || !same(f, bloom.Build(l[:9])) {
		t.Errorf("P9.1: Build of %d texts, 9 of them unlike: %d bits", n, f.Bits)
	}
}

func ExampleBuild() {
	f := bloom.Build([]string{"red", "blue"})
	fmt.Println(f.Bits, bloom.May(f, "red"), bloom.May(f, "green"))
	// Output: 64 true false
}
