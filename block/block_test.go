package block_test

import (
	"bytes"
	"encoding/binary"
	"hash/crc32"
	"math"
	"math/rand"
	"slices"
	"strings"
	"testing"

	"columbarium/api"
	"columbarium/block"
)

// filled answers s's bytes with a known pattern in the room behind them.
func filled(s string) []byte {
	b := bytes.Repeat([]byte{0x02}, len(s)+64)
	copy(b, s)
	return b[:len(s)]
}

// untouched fails if a call changed what filled(s) made.
func untouched(t *testing.T, b []byte, s string) {
	t.Helper()
	if !bytes.Equal(b[:len(s)+64], filled(s)[:len(s)+64]) {
		t.Errorf("R2: what was handed in as %.40x was changed", s)
	}
}

// head answers the eight bytes ahead of so many, by the library.
func head(size uint32) string {
	b := binary.LittleEndian.AppendUint32(nil, size)
	return string(binary.LittleEndian.AppendUint32(b, math.MaxUint32-size))
}

// foot answers the four bytes behind s, by the library.
func foot(s string) string {
	c := crc32.Checksum([]byte(s), crc32.MakeTable(crc32.Castagnoli))
	return string(binary.LittleEndian.AppendUint32(nil, c))
}

// otherSeal is another reckoning of Seal.
func otherSeal(s string) string { return head(uint32(len(s))) + s + foot(s) }

// otherOpen is another reckoning of Open.
func otherOpen(s string, at int) (string, int, api.Errno) {
	if at < 0 || at > len(s) {
		return "", 0, api.ErrArg
	}
	rest := s[at:]
	if len(rest) < 8 {
		return "", 0, api.ErrEnd
	}
	size := binary.LittleEndian.Uint32([]byte(rest))
	switch {
	case rest[:8] != head(size):
		return "", 0, api.ErrSum
	case size > 1<<20:
		return "", 0, api.ErrLong
	case uint64(len(rest)) < uint64(size)+12:
		return "", 0, api.ErrEnd
	case rest[8+size:12+size] != foot(rest[8:8+size]):
		return "", 0, api.ErrSum
	}
	return rest[8 : 8+size], at + 12 + int(size), api.OK
}

// otherAll is another reckoning of All: each Seal is cut off ahead of the next.
func otherAll(s string) ([]string, int, api.Errno) {
	var out []string
	whole := len(s)
	for s != "" {
		x, end, why := otherOpen(s, 0)
		if why != api.OK {
			return out, whole - len(s), why
		}
		out, s = append(out, x), s[end:]
	}
	return out, whole, api.OK
}

func seal(t *testing.T, s string) string {
	t.Helper()
	b, why := block.Seal([]byte(s))
	if why != api.OK {
		t.Fatalf("P6.1: Seal of %d bytes: %d", len(s), why)
	}
	return string(b)
}

// opened fails unless Open of s at at answers that.
func opened(t *testing.T, name, s string, at int, want string, wantEnd int, wantWhy api.Errno) {
	t.Helper()
	b := filled(s)
	x, end, why := block.Open(b, at)
	if string(x) != want || end != wantEnd || why != wantWhy {
		t.Errorf("P6.1: Open, %s: %d bytes, %.40x, %d, %d, want %.40x, %d, %d", name, len(x), x, end, why, want, wantEnd, wantWhy)
	}
	untouched(t, b, s)
}

// told fails unless All of s answers that.
func told(t *testing.T, name, s string, want []string, wantEnd int, wantWhy api.Errno) {
	t.Helper()
	b := filled(s)
	l, end, why := block.All(b)
	var got []string
	for _, x := range l {
		got = append(got, string(x))
	}
	if !slices.Equal(got, want) || end != wantEnd || why != wantWhy {
		t.Errorf("P6.1: All, %s: %.40q, %d, %d, want %.40q, %d, %d", name, got, end, why, want, wantEnd, wantWhy)
	}
	untouched(t, b, s)
}

// turn answers s with its byte at at turned by mask.
func turn(s string, at int, mask byte) string {
	b := []byte(s)
	b[at] ^= mask
	return string(b)
}

func TestSealWritesTheDocumentsBytes(t *testing.T) {
	for _, c := range []struct{ s, want string }{
		{"", "\x00\x00\x00\x00\xff\xff\xff\xff\x00\x00\x00\x00"},
		{"a", "\x01\x00\x00\x00\xfe\xff\xff\xffa\x30\x43\xd0\xc1"},
		{"123456789", "\x09\x00\x00\x00\xf6\xff\xff\xff123456789\x83\x92\x06\xe3"},
		{strings.Repeat("\x00", 32), "\x20\x00\x00\x00\xdf\xff\xff\xff" + strings.Repeat("\x00", 32) + "\xaa\x36\x91\x8a"},
		{strings.Repeat("\xff", 32), "\x20\x00\x00\x00\xdf\xff\xff\xff" + strings.Repeat("\xff", 32) + "\x43\xab\xa8\x62"},
	} {
		b := filled(c.s)
		got, why := block.Seal(b)
		if string(got) != c.want || why != api.OK {
			t.Errorf("P6.1: Seal(%x): %x, %d, want %x", c.s, got, why, c.want)
		}
		untouched(t, b, c.s)
		opened(t, "the chapter's bytes", c.want, 0, c.s, len(c.want), api.OK)
	}
	if got, why := block.Seal(nil); string(got) != otherSeal("") || why != api.OK {
		t.Errorf("R4: Seal(nil): %x, %d", got, why)
	}
}

func TestTheLongestBlock(t *testing.T) {
	s := strings.Repeat("ab\x00\xffz", api.MaxBlock/5+1)
	for _, size := range []int{api.MaxBlock - 1, api.MaxBlock} {
		want := otherSeal(s[:size])
		if got := seal(t, s[:size]); got != want {
			t.Errorf("P6.1: Seal of %d bytes is another one: %x ... %x", size, got[:8], got[len(got)-4:])
		}
		opened(t, "a long one", want, 0, s[:size], size+12, api.OK)
		opened(t, "a long one whose last byte lacks", want[:size+11], 0, "", 0, api.ErrEnd)
		opened(t, "a long one whose last byte is turned", turn(want, size+11, 1), 0, "", 0, api.ErrSum)
		told(t, "two long ones", want+want, []string{s[:size], s[:size]}, 2*size+24, api.OK)
	}
	for _, size := range []int{api.MaxBlock + 1, api.MaxBlock + 4} {
		b := filled(s[:size])
		if got, why := block.Seal(b); len(got) != 0 || why != api.ErrLong {
			t.Errorf("P6.1: Seal of %d bytes: %d bytes, %d", size, len(got), why)
		}
		untouched(t, b, s[:size])
		opened(t, "one too long, whole", otherSeal(s[:size]), 0, "", 0, api.ErrLong)
		told(t, "one too long behind another", otherSeal("a")+otherSeal(s[:size]), []string{"a"}, 13, api.ErrLong)
	}
	if got, why := block.Seal(make([]byte, 1<<24)); len(got) != 0 || why != api.ErrLong {
		t.Errorf("P6.1: Seal of 2^24 bytes: %d bytes, %d", len(got), why)
	}
}

func TestOpenReads(t *testing.T) {
	a, none := otherSeal("a"), otherSeal("")
	for _, c := range []struct {
		name string
		s    string
		at   int
		want string
		end  int
	}{
		{"a", a, 0, "a", 13},
		{"none", none, 0, "", 12},
		{"behind others", "zz" + a, 2, "a", 15},
		{"ahead of others", a + "z", 0, "a", 13},
		{"between others", "zz" + a + "zz", 2, "a", 15},
		{"ahead of a broken one", a + turn(a, 0, 1), 0, "a", 13},
		{"behind a broken one", turn(a, 0, 1) + a, 13, "a", 26},
		{"the second", a + none, 13, "", 25},
		{"none at the end", "z" + none, 1, "", 13},
		{"a Seal of a Seal", otherSeal(a), 0, a, 25},
		{"the Seal within a Seal", otherSeal(a), 8, "a", 21},
	} {
		opened(t, c.name, c.s, c.at, c.want, c.end, api.OK)
	}
}

func TestOpenRefuses(t *testing.T) {
	a, none := otherSeal("a"), otherSeal("")
	for _, c := range []struct {
		name string
		s    string
		at   int
		want api.Errno
	}{
		{"at -1", a, -1, api.ErrArg},
		{"the least at", a, math.MinInt, api.ErrArg},
		{"at behind the end", a, 14, api.ErrArg},
		{"the greatest at", a, math.MaxInt, api.ErrArg},
		{"at -1 of nothing", "", -1, api.ErrArg},
		{"at 1 of nothing", "", 1, api.ErrArg},
		{"at -1 of a broken head", "\x01\x00\x00\x00\x00\x00\x00\x00", -1, api.ErrArg},
		{"at behind the end of a few bytes", "\x01\x00", 3, api.ErrArg},
		{"at the end", a, 13, api.ErrEnd},
		{"nothing", "", 0, api.ErrEnd},
		{"one byte", "\x01", 0, api.ErrEnd},
		{"seven bytes", a[:7], 0, api.ErrEnd},
		{"seven bytes behind others", "zz" + a[:7], 2, api.ErrEnd},
		{"seven bytes that do not agree", "\x01\x00\x00\x00\x00\x00\x00", 0, api.ErrEnd},
		{"seven bytes of one too long", head(api.MaxBlock + 1)[:7], 0, api.ErrEnd},
		{"seven bytes from at on", none, 5, api.ErrEnd},
		{"eight bytes", a[:8], 0, api.ErrEnd},
		{"eight bytes of none", none[:8], 0, api.ErrEnd},
		{"eight bytes that do not agree", "\x01\x00\x00\x00\xfe\xff\xff\x00", 0, api.ErrSum},
		{"eight bytes from at on", "zz" + turn(none, 7, 1)[:8], 2, api.ErrSum},
		{"a length of no bits and no turned one", strings.Repeat("\x00", 12), 0, api.ErrSum},
		{"a length of all bits and no turned one", strings.Repeat("\xff", 12), 0, api.ErrSum},
		{"the length twice", "\x01\x00\x00\x00\x01\x00\x00\x00a" + foot("a"), 0, api.ErrSum},
		{"the length from its highest byte on", "\x00\x00\x00\x01\xff\xff\xff\xfea" + foot("a"), 0, api.ErrLong},
		{"a length of MaxBlock", head(api.MaxBlock), 0, api.ErrEnd},
		{"a length above MaxBlock", head(api.MaxBlock + 1), 0, api.ErrLong},
		{"a length of MaxBlock behind others", "zz" + head(api.MaxBlock), 2, api.ErrEnd},
		{"a length above MaxBlock behind others", "zz" + head(api.MaxBlock+1), 2, api.ErrLong},
		{"a length of 2^21", head(1 << 21), 0, api.ErrLong},
		{"a length of 2^24", head(1 << 24), 0, api.ErrLong},
		{"a length of 2^31 - 1", head(math.MaxInt32), 0, api.ErrLong},
		{"a length of 2^31", head(1 << 31), 0, api.ErrLong},
		{"the greatest length", head(math.MaxUint32), 0, api.ErrLong},
		{"the greatest length that may wrap round", head(math.MaxUint32 - 11), 0, api.ErrLong},
		{"a length above MaxBlock that does not agree", turn(head(api.MaxBlock+1), 4, 1), 0, api.ErrSum},
		{"a length of MaxBlock that does not agree", turn(head(api.MaxBlock), 7, 0x80), 0, api.ErrSum},
		{"the sum lacks", a[:9], 0, api.ErrEnd},
		{"the last byte lacks", a[:12], 0, api.ErrEnd},
		{"the last byte of none lacks", none[:11], 0, api.ErrEnd},
		{"the last byte lacks behind others", "zz" + a[:12], 2, api.ErrEnd},
		{"the last byte lacks, and the bytes are turned", turn(a, 8, 1)[:12], 0, api.ErrEnd},
		{"another sum", a[:12] + "z", 0, api.ErrSum},
		{"another byte", turn(a, 8, 1), 0, api.ErrSum},
		{"another sum behind others", "zz" + turn(a, 9, 1), 2, api.ErrSum},
		{"the sum from its highest byte on", a[:9] + "\xc1\xd0\x43\x30", 0, api.ErrSum},
		{"the sum turned", a[:9] + "\xcf\xbc\x2f\x3e", 0, api.ErrSum},
		{"one more byte in the length", "\x02\x00\x00\x00\xfd\xff\xff\xff" + a[8:], 0, api.ErrEnd},
		{"one more byte in the length, and a byte more", "\x02\x00\x00\x00\xfd\xff\xff\xff" + a[8:] + "z", 0, api.ErrSum},
		{"one byte fewer in the length", head(0) + a[8:], 0, api.ErrSum},
	} {
		opened(t, c.name, c.s, c.at, "", 0, c.want)
	}
	if x, end, why := block.Open(nil, 0); len(x) != 0 || end != 0 || why != api.ErrEnd {
		t.Errorf("R4: Open(nil, 0): %x, %d, %d", x, end, why)
	}
}

func TestWhatLacksIsNotSoughtBehindTheLength(t *testing.T) {
	for _, s := range []string{"", "a", "some more bytes"} {
		whole := []byte(otherSeal(s))
		for k := range whole {
			if x, end, why := block.Open(whole[:k], 0); len(x) != 0 || end != 0 || why != api.ErrEnd {
				t.Errorf("R5: Open of %d bytes of %d: %x, %d, %d", k, len(whole), x, end, why)
			}
			want := api.ErrEnd
			if k == 0 {
				want = api.OK
			}
			if l, end, why := block.All(whole[:k]); len(l) != 0 || end != 0 || why != want {
				t.Errorf("R5: All of %d bytes of %d: %x, %d, %d", k, len(whole), l, end, why)
			}
		}
	}
}

func TestBytesThereAndBack(t *testing.T) {
	r := rand.New(rand.NewSource(6))
	for i := range 3000 {
		b := make([]byte, i%300)
		r.Read(b)
		s := string(b)
		sealed := seal(t, s)
		if sealed != otherSeal(s) {
			t.Fatalf("P6.1: Seal(%x): %x, want %x", s, sealed, otherSeal(s))
		}
		ahead := strings.Repeat("z", r.Intn(20))
		opened(t, "there and back", sealed, 0, s, len(sealed), api.OK)
		opened(t, "there and back among others", ahead+sealed+ahead, len(ahead), s, len(ahead)+len(sealed), api.OK)
	}
	for _, size := range []int{255, 256, 257, 65535, 65536, 65537} {
		s := strings.Repeat("columbarium", size/11+1)[:size]
		if got := seal(t, s); got != otherSeal(s) {
			t.Errorf("P6.1: Seal of %d bytes is another one", size)
		}
		opened(t, "there and back", otherSeal(s), 0, s, size+12, api.OK)
	}
}

func TestATurnedByteIsNotOpened(t *testing.T) {
	for _, s := range []string{"", "a", "\x00", "\x00\x00\x00\x00", "\xff\xff\xff\xff\xff", "some more bytes"} {
		sealed := seal(t, s)
		for at := range len(sealed) {
			for mask := 1; mask < 256; mask++ {
				turned := turn(sealed, at, byte(mask))
				opened(t, "a turned byte", turned, 0, "", 0, api.ErrSum)
				opened(t, "a turned byte among others", "zz"+turned+sealed, 2, "", 0, api.ErrSum)
			}
		}
	}
	sealed := seal(t, strings.Repeat("pigeon", 1000))
	for at := 0; at < len(sealed); at += 7 {
		opened(t, "a turned byte of a long one", turn(sealed, at, byte(at%255+1)), 0, "", 0, api.ErrSum)
	}
}

func TestAllReads(t *testing.T) {
	told(t, "nothing", "", nil, 0, api.OK)
	if l, end, why := block.All(nil); len(l) != 0 || end != 0 || why != api.OK {
		t.Errorf("R4: All(nil): %x, %d, %d", l, end, why)
	}
	told(t, "one", otherSeal("a"), []string{"a"}, 13, api.OK)
	told(t, "one of none", otherSeal(""), []string{""}, 12, api.OK)
	told(t, "a Seal of a Seal", otherSeal(otherSeal("a")), []string{otherSeal("a")}, 25, api.OK)
	var s strings.Builder
	var want []string
	for i := range 200 {
		x := strings.Repeat(string(rune('a'+i%26)), i%7)
		s.WriteString(seal(t, x))
		want = append(want, x)
		told(t, "many", s.String(), want, s.Len(), api.OK)
	}
}

func TestAllStopsAtTheFirstThatIsRefused(t *testing.T) {
	bodies := []string{"a", "", "pigeon", "", "bc"}
	var whole string
	var places []int
	for _, x := range bodies {
		places = append(places, len(whole))
		whole += otherSeal(x)
	}
	for i, x := range bodies {
		for at := places[i]; at < places[i]+len(x)+12; at++ {
			told(t, "a turned byte", turn(whole, at, 0x40), bodies[:i], places[i], api.ErrSum)
			cut := api.ErrEnd
			if at == places[i] {
				cut = api.OK
			}
			told(t, "cut off", whole[:at], bodies[:i], places[i], cut)
			told(t, "a turned byte, and the last one cut off", turn(whole, at, 1)[:len(whole)-1], bodies[:i], places[i], whyOfBoth(i, len(bodies), at-places[i]))
		}
		told(t, "a byte more", whole[:places[i]]+"\x00", bodies[:i], places[i], api.ErrEnd)
		told(t, "one too long", whole[:places[i]]+head(api.MaxBlock+1)+whole[places[i]:], bodies[:i], places[i], api.ErrLong)
		told(t, "two that are refused", whole[:places[i]]+head(1<<24)+strings.Repeat("z", 20), bodies[:i], places[i], api.ErrLong)
	}
	told(t, "nothing but a byte", "\x00", nil, 0, api.ErrEnd)
	told(t, "a byte behind all", whole+"\x00", bodies, len(whole), api.ErrEnd)
	told(t, "eight bytes of no Seal behind all", whole+"zzzzzzzz", bodies, len(whole), api.ErrSum)
}

// whyOfBoth is the refusal of Seal i of n whose byte at at is turned while the last Seal's last byte lacks.
func whyOfBoth(i, n, at int) api.Errno {
	if i == n-1 && at >= 8 {
		return api.ErrEnd
	}
	return api.ErrSum
}

// holdBytes fails unless s is read as the other reckoning reads it.
func holdBytes(t *testing.T, s string, at int) {
	t.Helper()
	x, end, why := otherOpen(s, at)
	opened(t, "any bytes", s, at, x, end, why)
	l, end, why := otherAll(s)
	told(t, "any bytes", s, l, end, why)
}

func TestBytesOfEveryKind(t *testing.T) {
	r := rand.New(rand.NewSource(7))
	pieces := []string{"", "\x00", "\xff", "z", head(0), head(1), head(3), head(api.MaxBlock), head(api.MaxBlock + 1), head(math.MaxUint32), foot("a"), otherSeal(""), otherSeal("a"), otherSeal("abc"), otherSeal(otherSeal("a"))}
	for range 40000 {
		var s string
		for range r.Intn(6) {
			s += pieces[r.Intn(len(pieces))]
		}
		if s != "" && r.Intn(3) == 0 {
			s = turn(s, r.Intn(len(s)), byte(r.Intn(256)))
		}
		if r.Intn(3) == 0 {
			s = s[:r.Intn(len(s)+1)]
		}
		holdBytes(t, s, r.Intn(len(s)+4)-2)
	}
}

func FuzzOpen(f *testing.F) {
	f.Add([]byte(otherSeal("a")), 0)
	f.Add([]byte("zz"+otherSeal("")), 2)
	f.Add([]byte(otherSeal("a")+otherSeal("bc")+head(api.MaxBlock+1)), 13)
	f.Add([]byte(head(math.MaxUint32)), 0)
	f.Fuzz(func(t *testing.T, b []byte, at int) {
		holdBytes(t, string(b), at)
	})
}

// scribble overwrites all of b's memory, its spare room too.
func scribble(b []byte) {
	for i := range b[:cap(b)] {
		b[:cap(b)][i] = 0x11
	}
}

func TestAnswersAreNewMemory(t *testing.T) {
	b := filled("pigeon")
	first, _ := block.Seal(b)
	scribble(first)
	untouched(t, b, "pigeon")
	second, _ := block.Seal(b)
	scribble(b)
	want := otherSeal("pigeon")
	if string(second) != want {
		t.Errorf("R2: Seal's answer changes with what was handed in or another answer: %x", second)
	}

	given := filled(want)
	x, _, _ := block.Open(given, 0)
	scribble(x)
	untouched(t, given, want)
	y, _, _ := block.Open(given, 0)
	scribble(given)
	if string(y) != "pigeon" {
		t.Errorf("R2: Open's answer changes with what was handed in or another answer: %x", y)
	}
}

func TestAllsAnswersShareNoMemory(t *testing.T) {
	bodies := []string{"a", "", "pigeon", "bc", ""}
	var whole string
	for _, x := range bodies {
		whole += otherSeal(x)
	}
	for turned := range bodies {
		given := filled(whole + "z")
		l, _, _ := block.All(given)
		scribble(l[turned])
		untouched(t, given, whole+"z")
		scribble(given)
		for i, x := range l {
			if i != turned && string(x) != bodies[i] {
				t.Errorf("R2: the answer at %d changes with the one at %d or with what was handed in: %x", i, turned, x)
			}
		}
	}
	given := filled(whole)
	l, _, _ := block.All(given)
	clear(l[:cap(l)])
	told(t, "behind another answer that was overwritten", whole, bodies, len(whole), api.OK)
}

func TestManySealsTakeNoLongTime(t *testing.T) {
	const n = 1 << 18
	b := bytes.Repeat([]byte(otherSeal("")), n)
	if l, end, why := block.All(b); len(l) != n || end != 12*n || why != api.OK {
		t.Errorf("P6.1: All of 2^18 Seals of nothing: %d, %d, %d", len(l), end, why)
	}
	b[12*n-1] ^= 1
	if l, end, why := block.All(b); len(l) != n-1 || end != 12*(n-1) || why != api.ErrSum {
		t.Errorf("P6.1: All of 2^18 Seals, the last one turned: %d, %d, %d", len(l), end, why)
	}
}
