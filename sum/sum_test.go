package sum_test

import (
	"bytes"
	"hash/crc32"
	"hash/fnv"
	"math/rand"
	"strings"
	"testing"

	"columbarium/sum"
)

// otherCrc is the library's reckoning of the same sum.
func otherCrc(b []byte) uint32 {
	return crc32.Checksum(b, crc32.MakeTable(crc32.Castagnoli))
}

// otherFnv is the library's reckoning of the same sum.
func otherFnv(s string) uint64 {
	h := fnv.New64a()
	h.Write([]byte(s))
	return h.Sum64()
}

// hold fails if a sum of b is not the other reckoning's.
func hold(t *testing.T, b []byte) {
	t.Helper()
	if got, want := sum.Crc(b), otherCrc(b); got != want {
		t.Errorf("P2.1: Crc(%x): %08x, want %08x", b, got, want)
	}
	if got, want := sum.Fnv(string(b)), otherFnv(string(b)); got != want {
		t.Errorf("P2.1: Fnv(%x): %016x, want %016x", b, got, want)
	}
}

// some answers n bytes, the same ones in each run.
func some(seed int64, n int) []byte {
	b := make([]byte, n)
	rand.New(rand.NewSource(seed)).Read(b)
	return b
}

func TestCrcOfKnownBytes(t *testing.T) {
	rising := make([]byte, 32)
	for i := range rising {
		rising[i] = byte(i)
	}
	for _, c := range []struct {
		text string
		want uint32
	}{
		{"", 0},
		{"123456789", 0xe3069283},
		{"a", 0xc1d04330},
		{"abc", 0x364b3fb7},
		{"\x00", 0x527d5351},
		{"\xff", 0xff000000},
		{strings.Repeat("\x00", 32), 0x8a9136aa},
		{strings.Repeat("\xff", 32), 0x62a8ab43},
		{string(rising), 0x46dd794e},
	} {
		if got := sum.Crc([]byte(c.text)); got != c.want {
			t.Errorf("P2.1: Crc(%q): %08x, want %08x", c.text, got, c.want)
		}
	}
}

func TestFnvOfKnownTexts(t *testing.T) {
	for _, c := range []struct {
		text string
		want uint64
	}{
		{"", 0xcbf29ce484222325},
		{"a", 0xaf63dc4c8601ec8c},
		{"b", 0xaf63df4c8601f1a5},
		{"foobar", 0x85944171f73967e8},
		{"\x00", 0xaf63bd4c8601b7df},
	} {
		if got := sum.Fnv(c.text); got != c.want {
			t.Errorf("P2.1: Fnv(%q): %016x, want %016x", c.text, got, c.want)
		}
	}
}

func TestNilAndEmptyAreTheSame(t *testing.T) {
	if sum.Crc(nil) != 0 || sum.Crc([]byte{}) != 0 {
		t.Errorf("R4: Crc of nothing: %x and %x, want 0", sum.Crc(nil), sum.Crc([]byte{}))
	}
}

func TestBytesOfEveryValue(t *testing.T) {
	all := make([]byte, 256)
	for v := range all {
		all[v] = byte(v)
		hold(t, []byte{byte(v)})
		hold(t, []byte{byte(v), 'x'})
		hold(t, []byte{'x', byte(v)})
	}
	hold(t, all)
}

func TestAgainstAnotherReckoning(t *testing.T) {
	for n := range 300 {
		hold(t, some(int64(n), n))
	}
	for _, n := range []int{1 << 10, 1<<16 + 1, 1 << 20} {
		b := some(int64(n), n)
		if sum.Crc(b) != otherCrc(b) || sum.Fnv(string(b)) != otherFnv(string(b)) {
			t.Errorf("P2.1: the sums of %d bytes", n)
		}
	}
}

func TestTextsAreBytes(t *testing.T) {
	for _, s := range []string{"é", "日本", "\U0001f54a", "\xc3", "\xff\xfe", "\xed\xa0\x80", "a\x00b"} {
		hold(t, []byte(s))
	}
}

func TestATurnedBitIsTold(t *testing.T) {
	b := some(1, 40)
	crc, h := sum.Crc(b), sum.Fnv(string(b))
	for place := range 8 * len(b) {
		turned := bytes.Clone(b)
		turned[place/8] ^= 1 << (place % 8)
		if sum.Crc(turned) == crc || sum.Fnv(string(turned)) == h {
			t.Errorf("P2.1: bit %d turned, and a sum is the same", place)
		}
	}
}

func TestCrcReadsItsLengthAloneAndChangesNothing(t *testing.T) {
	room := some(2, 64)
	for n := range len(room) {
		before := bytes.Clone(room)
		if got, want := sum.Crc(room[:n]), otherCrc(before[:n]); got != want {
			t.Errorf("R5: Crc of %d bytes with room behind them: %08x, want %08x", n, got, want)
		}
		if !bytes.Equal(room, before) {
			t.Fatalf("R2: Crc of %d bytes changed what was handed in", n)
		}
	}
}

func TestAnswersHangOnWhatIsGivenAlone(t *testing.T) {
	b := some(3, 100)
	crc, h := sum.Crc(b), sum.Fnv(string(b))
	sum.Crc([]byte("other"))
	sum.Fnv("other")
	if sum.Crc(bytes.Clone(b)) != crc || sum.Fnv(string(b)) != h {
		t.Error("R4: the same bytes have another sum the second time")
	}
}

func FuzzSums(f *testing.F) {
	f.Add([]byte(nil))
	f.Add([]byte("123456789"))
	f.Fuzz(func(t *testing.T, b []byte) { hold(t, b) })
}
