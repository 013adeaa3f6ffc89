package dict_test

import (
	"bytes"
	"encoding/binary"
	"fmt"
	"math"
	"math/rand"
	"slices"
	"sort"
	"strings"
	"testing"

	"columbarium/api"
	"columbarium/dict"
)

const (
	room = 8        // places behind a list's length
	mark = "\x02??" // what stands in them
)

// filled answers l's texts with a known text in the room behind them.
func filled(l []string) []string {
	out := append([]string{}, l...)
	for range room {
		out = append(out, mark)
	}
	return out[:len(l)]
}

// untouched fails if a call changed what filled(l) made.
func untouched(t *testing.T, given, l []string) {
	t.Helper()
	if !slices.Equal(given[:len(l)+room], filled(l)[:len(l)+room]) {
		t.Errorf("R2: what was handed in as %.40q was changed: %.40q", l, given[:len(l)+room])
	}
}

// filledBytes answers s's bytes with bytes behind them that go on as a text may.
func filledBytes(s string) []byte {
	b := bytes.Repeat([]byte{0x01}, len(s)+64)
	copy(b, s)
	return b[:len(s)]
}

func untouchedBytes(t *testing.T, b []byte, s string) {
	t.Helper()
	if !bytes.Equal(b[:len(s)+64], filledBytes(s)[:len(s)+64]) {
		t.Errorf("R2: what was handed in as %.40x was changed", s)
	}
}

// otherBuild is another reckoning of Build, by the library.
func otherBuild(l []string) ([]string, []int) {
	d := slices.Clone(l)
	sort.Strings(d)
	d = slices.Compact(d)
	places := []int{}
	for _, s := range l {
		places = append(places, slices.Index(d, s))
	}
	return d, places
}

// otherFrom is another reckoning of From: each text is asked.
func otherFrom(d []string, prefix string) (int, int) {
	below, begin := 0, 0
	for _, s := range d {
		switch {
		case len(s) >= len(prefix) && s[:len(prefix)] == prefix:
			begin++
		case strings.Compare(s, prefix) < 0:
			below++
		}
	}
	return below, below + begin
}

// otherFits is another reckoning of Fits.
func otherFits(d []string) bool {
	for _, s := range d {
		if len(s) > 40 {
			return false
		}
	}
	again, _ := otherBuild(d)
	return len(d) <= 16 && slices.Equal(again, d)
}

// written answers d's texts as Encode writes them, whether they fit or not, by the library.
func written(d ...string) string {
	b := binary.AppendUvarint(nil, uint64(len(d)))
	for _, s := range d {
		b = append(binary.AppendUvarint(b, uint64(len(s))), s...)
	}
	return string(b)
}

// otherNumber is another reckoning of what is read of a number: Uvarint takes more than one writing of it.
func otherNumber(s string) (uint64, int, api.Errno) {
	n, size := binary.Uvarint([]byte(s))
	all := 0
	for all < len(s) && s[all] > 127 {
		all++
	}
	switch {
	case all == len(s):
		return 0, 0, api.ErrEnd
	case size <= 0 || string(binary.AppendUvarint(nil, n)) != s[:size]:
		return 0, 0, api.ErrForm
	}
	return n, size, api.OK
}

// otherDecode is another reckoning of Decode: what is read is cut off.
func otherDecode(s string, at int) ([]string, int, api.Errno) {
	if at < 0 || at > len(s) {
		return nil, 0, api.ErrArg
	}
	rest := s[at:]
	n, size, why := otherNumber(rest)
	if why != api.OK {
		return nil, 0, why
	}
	if n > 16 {
		return nil, 0, api.ErrMany
	}
	rest = rest[size:]
	var d []string
	for range n {
		length, size, why := otherNumber(rest)
		switch {
		case why != api.OK:
			return nil, 0, why
		case length > 40:
			return nil, 0, api.ErrLong
		case size+int(length) > len(rest):
			return nil, 0, api.ErrEnd
		}
		d = append(d, rest[size:size+int(length)])
		rest = rest[size+int(length):]
	}
	if !otherFits(d) {
		return nil, 0, api.ErrForm
	}
	return d, len(s) - len(rest), api.OK
}

// built fails unless Build of l answers that.
func built(t *testing.T, l, want []string, wantPlaces []int) {
	t.Helper()
	given := filled(l)
	d, places := dict.Build(given)
	if !slices.Equal(d, want) || !slices.Equal(places, wantPlaces) {
		t.Errorf("P7.1: Build(%.60q): %.60q, %v, want %.60q, %v", l, d, places, want, wantPlaces)
	}
	untouched(t, given, l)
}

// found fails unless Find and From of s in d answer that.
func found(t *testing.T, d []string, s string, want int, wantOk bool, wantFrom, wantTo int) {
	t.Helper()
	given := filled(d)
	if place, ok := dict.Find(given, s); place != want || ok != wantOk {
		t.Errorf("P7.1: Find(%q, %q): %d, %v, want %d, %v", d, s, place, ok, want, wantOk)
	}
	if from, to := dict.From(given, s); from != wantFrom || to != wantTo {
		t.Errorf("P7.1: From(%q, %q): %d, %d, want %d, %d", d, s, from, to, wantFrom, wantTo)
	}
	untouched(t, given, d)
}

// fits fails unless Fits and Encode of d answer that, and what is written is read again.
func fits(t *testing.T, name string, d []string, want bool) {
	t.Helper()
	given := filled(d)
	if got := dict.Fits(given); got != want {
		t.Errorf("P7.1: Fits, %s: %v", name, got)
	}
	b, why := dict.Encode(given)
	untouched(t, given, d)
	if !want {
		if len(b) != 0 || why != api.ErrForm {
			t.Errorf("P7.2: Encode, %s: %x, %d, want ErrForm", name, b, why)
		}
		return
	}
	s := written(d...)
	if string(b) != s || why != api.OK {
		t.Errorf("P7.2: Encode, %s: %x, %d, want %x", name, b, why, s)
	}
	decoded(t, name, s, 0, d, len(s), api.OK)
	decoded(t, name+", behind others", "zz"+s, 2, d, len(s)+2, api.OK)
	decoded(t, name+", among others", "\x80"+s+"\x01", 1, d, len(s)+1, api.OK)
}

// decoded fails unless Decode of s at at answers that.
func decoded(t *testing.T, name, s string, at int, want []string, wantEnd int, wantWhy api.Errno) {
	t.Helper()
	b := filledBytes(s)
	d, end, why := dict.Decode(b, at)
	if !slices.Equal(d, want) || end != wantEnd || why != wantWhy {
		t.Errorf("P7.2: Decode(%.60x, %d), %s: %.60q, %d, %d, want %.60q, %d, %d", s, at, name, d, end, why, want, wantEnd, wantWhy)
	}
	untouchedBytes(t, b, s)
}

// merged fails unless Merge of l answers that.
func merged(t *testing.T, l [][]string, want []string, wantPlaces [][]int) {
	t.Helper()
	given := make([][]string, len(l), len(l)+1)
	for i, d := range l {
		given[i] = filled(d)
	}
	spare := filled([]string{"spare"})
	given[:len(l)+1][len(l)] = spare
	m, places := dict.Merge(given)
	if !slices.Equal(m, want) || !slices.EqualFunc(places, wantPlaces, slices.Equal[[]int]) {
		t.Errorf("P7.2: Merge(%q): %q, %v, want %q, %v", l, m, places, want, wantPlaces)
	}
	for i, d := range l {
		untouched(t, given[i], d)
	}
	if last := given[:len(l)+1][len(l)]; len(last) != 1 || &last[0] != &spare[0] || last[0] != "spare" {
		t.Errorf("R2: Merge(%q): the room behind the list was changed: %q", l, last)
	}
}

// numbered answers n unlike rising texts.
func numbered(n int) []string {
	var out []string
	for i := range n {
		out = append(out, fmt.Sprintf("t%06d", i))
	}
	return out
}

// behind answers l and then s, in new memory.
func behind(l []string, s string) []string { return append(slices.Clone(l), s) }

func TestBuild(t *testing.T) {
	for _, c := range []struct {
		l, want []string
		places  []int
	}{
		{[]string{"b", "a", "b"}, []string{"a", "b"}, []int{1, 0, 1}},
		{nil, nil, nil},
		{[]string{}, nil, nil},
		{[]string{""}, []string{""}, []int{0}},
		{[]string{"a"}, []string{"a"}, []int{0}},
		{[]string{"a", "b"}, []string{"a", "b"}, []int{0, 1}},
		{[]string{"b", "a"}, []string{"a", "b"}, []int{1, 0}},
		{[]string{"a", "a"}, []string{"a"}, []int{0, 0}},
		{[]string{"c", "b", "a"}, []string{"a", "b", "c"}, []int{2, 1, 0}},
		{[]string{"a", "b", "a", "b", "a"}, []string{"a", "b"}, []int{0, 1, 0, 1, 0}},
		{[]string{"a", "", "a"}, []string{"", "a"}, []int{1, 0, 1}},
		{[]string{"", "", ""}, []string{""}, []int{0, 0, 0}},
		{[]string{"abc", "ab", "a", ""}, []string{"", "a", "ab", "abc"}, []int{3, 2, 1, 0}},
		{[]string{"b", "ab", "aab", "a"}, []string{"a", "aab", "ab", "b"}, []int{3, 2, 1, 0}},
		{[]string{"\xff", "\x80", "\x7f", "\x00", ""}, []string{"", "\x00", "\x7f", "\x80", "\xff"}, []int{4, 3, 2, 1, 0}},
		{[]string{"\xc3\xa4", "z", "Z", "\xc3"}, []string{"Z", "z", "\xc3", "\xc3\xa4"}, []int{3, 1, 0, 2}},
		{[]string{"a\x00", "a", "a\x00"}, []string{"a", "a\x00"}, []int{1, 0, 1}},
		{[]string{"10", "9", "1"}, []string{"1", "10", "9"}, []int{1, 2, 0}},
	} {
		built(t, c.l, c.want, c.places)
	}
}

func TestBuildHasNoBound(t *testing.T) {
	for _, n := range []int{15, 16, 17, 18, 31, 32, 33, 100} {
		l := numbered(n)
		slices.Reverse(l)
		d, places := otherBuild(l)
		built(t, l, d, places)
	}
	long := strings.Repeat("x", 1000)
	built(t, []string{long + "b", long + "a", long}, []string{long, long + "a", long + "b"}, []int{2, 1, 0})
}

func TestBuildOfEveryShortList(t *testing.T) {
	texts := []string{"", "a", "ab", "b", "\x80"}
	lists := [][]string{nil}
	for range 6 {
		for _, l := range lists {
			d, places := otherBuild(l)
			built(t, l, d, places)
		}
		var longer [][]string
		for _, l := range lists {
			for _, s := range texts {
				longer = append(longer, behind(l, s))
			}
		}
		lists = longer
	}
}

// someTexts answers up to n texts, many of them alike or one another's beginnings.
func someTexts(r *rand.Rand, n int) []string {
	letters := "ab\x00\x7f\x80\xff"
	var l []string
	for range r.Intn(n + 1) {
		b := make([]byte, r.Intn(4))
		for i := range b {
			b[i] = letters[r.Intn(len(letters))]
		}
		l = append(l, string(b))
	}
	return l
}

func TestTextsOfEveryKind(t *testing.T) {
	r := rand.New(rand.NewSource(7))
	for range 4000 {
		l := someTexts(r, 60)
		d, places := otherBuild(l)
		built(t, l, d, places)
		for _, s := range append(someTexts(r, 10), d...) {
			place := slices.Index(d, s)
			from, to := otherFrom(d, s)
			found(t, d, s, max(place, 0), place >= 0, from, to)
		}
		fits(t, "a dictionary of any texts", d, otherFits(d))
		fits(t, "any texts", l, otherFits(l))
	}
}

func TestFind(t *testing.T) {
	d := []string{"b", "ba", "bab", "d", "f", "\x80", "\xff"}
	for i, s := range d {
		from, to := otherFrom(d, s)
		found(t, d, s, i, true, from, to)
	}
	for _, c := range []struct {
		s        string
		from, to int
	}{
		{"", 0, 7}, {"a", 0, 0}, {"az", 0, 0}, {"b\x00", 1, 1}, {"baa", 2, 2}, {"baba", 3, 3}, {"bb", 3, 3}, {"c", 3, 3}, {"da", 4, 4}, {"e", 4, 4}, {"g", 5, 5}, {"\x7f", 5, 5}, {"\x81", 6, 6}, {"\xfe", 6, 6}, {"\xff\x00", 7, 7}, {"\xff\xff", 7, 7},
	} {
		found(t, d, c.s, 0, false, c.from, c.to)
	}
	for n := range 40 {
		d := numbered(n)
		for i, s := range d {
			found(t, d, s, i, true, i, i+1)
			found(t, d, s+"x", 0, false, i+1, i+1)
		}
		found(t, d, "a", 0, false, 0, 0)
		found(t, d, "z", 0, false, n, n)
		found(t, d, "t0", 0, false, 0, n)
	}
}

func TestFindInNoTexts(t *testing.T) {
	for _, s := range []string{"", "a", "\xff"} {
		found(t, nil, s, 0, false, 0, 0)
		if place, ok := dict.Find(nil, s); place != 0 || ok {
			t.Errorf("R4: Find(nil, %q): %d, %v", s, place, ok)
		}
		if from, to := dict.From(nil, s); from != 0 || to != 0 {
			t.Errorf("R4: From(nil, %q): %d, %d", s, from, to)
		}
	}
	found(t, []string{""}, "", 0, true, 0, 1)
	found(t, []string{""}, "a", 0, false, 1, 1)
	found(t, []string{"a"}, "", 0, false, 0, 1)
}

func TestFrom(t *testing.T) {
	for _, c := range []struct {
		d        []string
		prefix   string
		from, to int
	}{
		{[]string{"a", "ab", "b"}, "a", 0, 2},
		{[]string{"a", "c"}, "b", 1, 1},
		{[]string{"a", "ab", "b"}, "", 0, 3},
		{[]string{"", "a"}, "", 0, 2},
		{[]string{"b", "c"}, "a", 0, 0},
		{[]string{"b", "c"}, "d", 2, 2},
		{[]string{"pa", "pb", "pc"}, "p", 0, 3},
		{[]string{"p", "pb", "pc"}, "p", 0, 3},
		{[]string{"pa", "pb", "pc"}, "pb", 1, 2},
		{[]string{"pa", "pb", "pc"}, "pcc", 3, 3},
		{[]string{"pa", "pb", "pc"}, "paa", 1, 1},
		{[]string{"a", "pa", "pb", "q"}, "p", 1, 3},
		{[]string{"a", "pa", "pb"}, "p", 1, 3},
		{[]string{"pa", "pb", "q"}, "p", 0, 2},
		{[]string{"o\xff", "p\x00", "p\xff\xff", "q"}, "p", 1, 3},
		{[]string{"\xff", "\xff\xff", "\xff\xff\xff"}, "\xff", 0, 3},
		{[]string{"\xff", "\xff\xff", "\xff\xff\xff"}, "\xff\xff", 1, 3},
		{[]string{"\x7f", "\x80", "\x80a", "\x81"}, "\x80", 1, 3},
		{[]string{"\xc3", "\xc3\xa4", "\xc4"}, "\xc3", 0, 2},
	} {
		if from, to := dict.From(filled(c.d), c.prefix); from != c.from || to != c.to {
			t.Errorf("P7.1: From(%q, %q): %d, %d, want %d, %d", c.d, c.prefix, from, to, c.from, c.to)
		}
	}
}

func TestFitsAndEncode(t *testing.T) {
	forty := strings.Repeat("x", api.MaxText)
	for _, c := range []struct {
		name string
		d    []string
		want bool
	}{
		{"none", nil, true},
		{"no texts", []string{}, true},
		{"the empty text", []string{""}, true},
		{"the empty text twice", []string{"", ""}, false},
		{"the empty text ahead", []string{"", "a"}, true},
		{"the empty text behind", []string{"a", ""}, false},
		{"one", []string{"a"}, true},
		{"two that rise", []string{"a", "b"}, true},
		{"two that are alike", []string{"a", "a"}, false},
		{"two that fall", []string{"b", "a"}, false},
		{"the last two are alike", []string{"a", "b", "b"}, false},
		{"the last two fall", []string{"a", "c", "b"}, false},
		{"the first two are alike", []string{"a", "a", "b"}, false},
		{"the first two fall", []string{"b", "a", "c"}, false},
		{"alike, but not next to one another", []string{"a", "b", "a"}, false},
		{"the beginning of the next", []string{"a", "ab"}, true},
		{"the next's beginning behind it", []string{"ab", "a"}, false},
		{"above 127 behind", []string{"\x7f", "\x80", "\xff"}, true},
		{"above 127 ahead", []string{"\x80", "\x7f"}, false},
		{"a byte 0 more", []string{"a", "a\x00"}, true},
		{"15 texts", numbered(api.MaxDict - 1), true},
		{"16 texts", numbered(api.MaxDict), true},
		{"17 texts", numbered(api.MaxDict + 1), false},
		{"18 texts", numbered(api.MaxDict + 2), false},
		{"272 texts", numbered(api.MaxDict + 256), false},
		{"16 texts, the last two alike", behind(numbered(api.MaxDict-1), "t000014"), false},
		{"39 bytes", []string{forty[1:]}, true},
		{"40 bytes", []string{forty}, true},
		{"41 bytes", []string{forty + "x"}, false},
		{"1000 bytes", []string{strings.Repeat("x", 1000)}, false},
		{"40 bytes behind", []string{"a", forty}, true},
		{"41 bytes behind", []string{"a", forty + "x"}, false},
		{"41 bytes ahead", []string{"a" + forty, "b"}, false},
		{"40 bytes above 127", []string{strings.Repeat("\xff", 40)}, true},
		{"16 texts, the last of 40 bytes", behind(numbered(api.MaxDict-1), forty), true},
		{"16 texts, the last of 41 bytes", behind(numbered(api.MaxDict-1), forty+"x"), false},
		{"17 texts, the last of 41 bytes", behind(numbered(api.MaxDict), forty+"x"), false},
		{"41 bytes twice", []string{forty + "x", forty + "x"}, false},
	} {
		fits(t, c.name, c.d, c.want)
	}
	for place := range api.MaxDict {
		d := numbered(api.MaxDict)
		d[place] += strings.Repeat("x", api.MaxText-len(d[place]))
		fits(t, "16 texts, one of 40 bytes", d, true)
		d[place] += "x"
		fits(t, "16 texts, one of 41 bytes", d, false)
		if place > 0 {
			d = numbered(api.MaxDict)
			d[place] = d[place-1]
			fits(t, "16 texts, two alike", d, false)
			d = numbered(api.MaxDict)
			d[place], d[place-1] = d[place-1], d[place]
			fits(t, "16 texts, two that fall", d, false)
		}
	}
}

func TestTheWriting(t *testing.T) {
	for _, c := range []struct {
		d    []string
		want string
	}{
		{nil, "\x00"},
		{[]string{""}, "\x01\x00"},
		{[]string{"a"}, "\x01\x01a"},
		{[]string{"", "a", "ab"}, "\x03\x00\x01a\x02ab"},
		{[]string{"a\x00", "\x80\xff"}, "\x02\x02a\x00\x02\x80\xff"},
		{[]string{strings.Repeat("y", 40), "z"}, "\x02\x28" + strings.Repeat("y", 40) + "\x01z"},
		{strings.Split("abcdefghijklmnop", ""), "\x10\x01a\x01b\x01c\x01d\x01e\x01f\x01g\x01h\x01i\x01j\x01k\x01l\x01m\x01n\x01o\x01p"},
	} {
		if b, why := dict.Encode(c.d); string(b) != c.want || why != api.OK {
			t.Errorf("P7.2: Encode(%q): %x, %d, want %x", c.d, b, why, c.want)
		}
		decoded(t, "as it is written", c.want, 0, c.d, len(c.want), api.OK)
	}
}

func TestDecodeReads(t *testing.T) {
	a := written("a", "ab")
	for _, c := range []struct {
		name string
		s    string
		at   int
		want []string
		end  int
	}{
		{"alone", a, 0, []string{"a", "ab"}, 6},
		{"behind others", "zz" + a, 2, []string{"a", "ab"}, 8},
		{"ahead of others", a + "\x05", 0, []string{"a", "ab"}, 6},
		{"ahead of another", a + written("c"), 0, []string{"a", "ab"}, 6},
		{"behind another", a + written("c"), 6, []string{"c"}, 9},
		{"none", "\x00", 0, nil, 1},
		{"none, ahead of others", "\x00\x01a", 0, nil, 1},
		{"none, behind others", "a\x00", 1, nil, 2},
		{"one within a text", written("\x01\x01a"), 2, []string{"a"}, 5},
	} {
		decoded(t, c.name, c.s, c.at, c.want, c.end, api.OK)
	}
}

func TestDecodeRefuses(t *testing.T) {
	forty := strings.Repeat("x", api.MaxText)
	more := strings.Repeat("\x80", 10)
	for _, c := range []struct {
		name string
		s    string
		at   int
		want api.Errno
	}{
		{"at -1", "\x00", -1, api.ErrArg},
		{"the least at", "\x00", math.MinInt, api.ErrArg},
		{"at behind the end", "\x00", 2, api.ErrArg},
		{"the greatest at", "\x00", math.MaxInt, api.ErrArg},
		{"at -1 of nothing", "", -1, api.ErrArg},
		{"at 1 of nothing", "", 1, api.ErrArg},
		{"at -1 of too many", "\x11", -1, api.ErrArg},
		{"at behind the end of texts that fall", written("b", "a"), 6, api.ErrArg},
		{"at the end", "\x00", 1, api.ErrEnd},
		{"nothing", "", 0, api.ErrEnd},
		{"how many has no last byte", "\x80", 0, api.ErrEnd},
		{"how many has no last byte, of eleven", more + "\x80", 0, api.ErrEnd},
		{"how many has a last byte 0", "\x80\x00", 0, api.ErrForm},
		{"how many has a last byte 0, behind others", "z\x81\x00\x01a", 1, api.ErrForm},
		{"how many has eleven bytes", more + "\x01", 0, api.ErrForm},
		{"how many is above 2^64 - 1", more[1:] + "\x02", 0, api.ErrForm},
		{"how many is 16", "\x10", 0, api.ErrEnd},
		{"how many is 17", "\x11", 0, api.ErrMany},
		{"how many is 17, and as many texts", written(numbered(17)...), 0, api.ErrMany},
		{"how many is 17, behind others", "z" + written(numbered(17)...), 1, api.ErrMany},
		{"how many is 17, and the first text is too long", "\x11\x29", 0, api.ErrMany},
		{"how many is 17, and the texts fall", "\x11\x01b\x01a", 0, api.ErrMany},
		{"how many is 128", "\x80\x01", 0, api.ErrMany},
		{"how many is 2^63", more[1:] + "\x01", 0, api.ErrMany},
		{"how many is 2^64 - 1", strings.Repeat("\xff", 9) + "\x01", 0, api.ErrMany},
		{"how many is 2^32", "\x80\x80\x80\x80\x10", 0, api.ErrMany},
		{"a length lacks", "\x01", 0, api.ErrEnd},
		{"the second length lacks", "\x02\x01a", 0, api.ErrEnd},
		{"a length has no last byte", "\x01\x81", 0, api.ErrEnd},
		{"a length has a last byte 0", "\x01\x81\x00a", 0, api.ErrForm},
		{"a length has eleven bytes", "\x01" + more + "\x01", 0, api.ErrForm},
		{"a length of 40, and no bytes", "\x01\x28", 0, api.ErrEnd},
		{"a length of 40, and 39 bytes", "\x01\x28" + forty[1:], 0, api.ErrEnd},
		{"a length of 41, and no bytes", "\x01\x29", 0, api.ErrLong},
		{"a length of 41, and as many bytes", written(forty + "x"), 0, api.ErrLong},
		{"a length of 128", "\x01\x80\x01", 0, api.ErrLong},
		{"a length of 2^63", "\x01" + more[1:] + "\x01", 0, api.ErrLong},
		{"the greatest length", "\x01" + strings.Repeat("\xff", 9) + "\x01", 0, api.ErrLong},
		{"the second of 41 bytes", written("a", forty+"x"), 0, api.ErrLong},
		{"a text's last byte lacks", "\x01\x02a", 0, api.ErrEnd},
		{"the second text's last byte lacks", "\x02\x01a\x02b", 0, api.ErrEnd},
		{"alike", written("a", "a"), 0, api.ErrForm},
		{"alike, empty", written("", ""), 0, api.ErrForm},
		{"alike, 40 bytes", written(forty, forty), 0, api.ErrForm},
		{"they fall", written("b", "a"), 0, api.ErrForm},
		{"they fall to the empty text", written("a", ""), 0, api.ErrForm},
		{"they fall to the beginning", written("ab", "a"), 0, api.ErrForm},
		{"they fall from above 127", written("\x80", "\x7f"), 0, api.ErrForm},
		{"they fall, behind others", "zz" + written("b", "a"), 2, api.ErrForm},
		{"the last two alike", written("a", "b", "b"), 0, api.ErrForm},
		{"they fall, and a length lacks behind", "\x03\x01b\x01a", 0, api.ErrEnd},
		{"they are alike, and bytes lack behind", "\x03\x01a\x01a\x02b", 0, api.ErrEnd},
		{"they fall, and the third is too long", written("b", "a", forty+"x"), 0, api.ErrLong},
		{"they fall, and the third's length has a second writing", "\x03\x01b\x01a\x81\x00c", 0, api.ErrForm},
		{"they fall to one that is too long", written("b", "a"+forty), 0, api.ErrLong},
		{"the first is too long, and bytes lack behind", "\x02" + written(forty + "x")[1:] + "\x05", 0, api.ErrLong},
		{"the first length has a second writing, the next text is too long", "\x02\x81\x00a\x29", 0, api.ErrForm},
	} {
		decoded(t, c.name, c.s, c.at, nil, 0, c.want)
	}
	if d, end, why := dict.Decode(nil, 0); len(d) != 0 || end != 0 || why != api.ErrEnd {
		t.Errorf("R4: Decode(nil, 0): %q, %d, %d", d, end, why)
	}
	decoded(t, "16 texts", written(numbered(16)...), 0, numbered(16), 16*8+1, api.OK)
	decoded(t, "40 bytes", written(forty), 0, []string{forty}, 42, api.OK)
}

func TestACutIsTold(t *testing.T) {
	for _, d := range [][]string{nil, {""}, {"a"}, {"", "a", "ab", "b\x80"}, {strings.Repeat("y", 40), "z"}, numbered(16)} {
		b, why := dict.Encode(d)
		if why != api.OK {
			t.Fatalf("P7.2: Encode(%q): %d", d, why)
		}
		for k := range b {
			if x, end, why := dict.Decode(b[:k], 0); len(x) != 0 || end != 0 || why != api.ErrEnd {
				t.Errorf("P7.2: Decode of %d bytes of %x: %q, %d, %d", k, b, x, end, why)
			}
			decoded(t, "cut, behind others", "zz"+string(b[:k]), 2, nil, 0, api.ErrEnd)
		}
	}
}

// holdBytes fails unless s is read as the other reckoning reads it, and written again as it was.
func holdBytes(t *testing.T, s string, at int) {
	t.Helper()
	want, wantEnd, wantWhy := otherDecode(s, at)
	decoded(t, "any bytes", s, at, want, wantEnd, wantWhy)
	d, end, why := dict.Decode([]byte(s), at)
	if why != api.OK {
		return
	}
	if b, why := dict.Encode(d); why != api.OK || string(b) != s[at:end] {
		t.Errorf("P7.2: Encode of what was read of %x at %d: %x, %d", s, at, b, why)
	}
}

func TestBytesOfEveryKind(t *testing.T) {
	r := rand.New(rand.NewSource(8))
	pieces := []string{"\x00", "\x01", "\x02", "\x03", "\x10", "\x11", "\x28", "\x29", "\x80", "\x80\x00", "\xff", "\x01a", "\x01b", "\x02ab", "\x01\x80", "\x02\x01a\x01b", "\x28" + strings.Repeat("x", 40), "\x29" + strings.Repeat("x", 41)}
	for range 40000 {
		var s string
		for range r.Intn(7) {
			s += pieces[r.Intn(len(pieces))]
		}
		if r.Intn(4) == 0 {
			s = s[:r.Intn(len(s)+1)]
		}
		holdBytes(t, s, 0)
		holdBytes(t, s, r.Intn(len(s)+4)-2)
	}
	for a := range 256 {
		for b := range 256 {
			holdBytes(t, string([]byte{byte(a), byte(b)}), 0)
			holdBytes(t, string([]byte{2, 1, byte(a), 1, byte(b)}), 0)
		}
	}
}

func FuzzDecode(f *testing.F) {
	f.Add([]byte(written("a", "ab")), 0)
	f.Add([]byte("zz"+written("b", "a")), 2)
	f.Add([]byte(written(numbered(17)...)), 0)
	f.Add([]byte(written(strings.Repeat("x", 41))), 0)
	f.Fuzz(func(t *testing.T, b []byte, at int) {
		holdBytes(t, string(b), at)
	})
}

func TestMerge(t *testing.T) {
	for _, c := range []struct {
		l      [][]string
		want   []string
		places [][]int
	}{
		{[][]string{{"a", "c"}, {"b", "c"}}, []string{"a", "b", "c"}, [][]int{{0, 2}, {1, 2}}},
		{nil, nil, nil},
		{[][]string{}, nil, nil},
		{[][]string{nil}, nil, [][]int{nil}},
		{[][]string{nil, {}, nil}, nil, [][]int{nil, nil, nil}},
		{[][]string{{"a", "b"}}, []string{"a", "b"}, [][]int{{0, 1}}},
		{[][]string{{""}}, []string{""}, [][]int{{0}}},
		{[][]string{{"a"}, nil, {"b"}}, []string{"a", "b"}, [][]int{{0}, nil, {1}}},
		{[][]string{nil, {"a"}}, []string{"a"}, [][]int{nil, {0}}},
		{[][]string{{"a"}, nil}, []string{"a"}, [][]int{{0}, nil}},
		{[][]string{{"a", "b"}, {"a", "b"}, {"a", "b"}}, []string{"a", "b"}, [][]int{{0, 1}, {0, 1}, {0, 1}}},
		{[][]string{{"c", "d"}, {"a", "b"}}, []string{"a", "b", "c", "d"}, [][]int{{2, 3}, {0, 1}}},
		{[][]string{{"b"}, {"", "b", "bb"}, {"a", "bb"}}, []string{"", "a", "b", "bb"}, [][]int{{2}, {0, 2, 3}, {1, 3}}},
		{[][]string{{"\x7f", "\xff"}, {"\x80"}}, []string{"\x7f", "\x80", "\xff"}, [][]int{{0, 2}, {1}}},
	} {
		merged(t, c.l, c.want, c.places)
	}
}

func TestMergeHasNoBound(t *testing.T) {
	l := [][]string{numbered(16), numbered(17), {strings.Repeat("x", 41)}, numbered(40)}
	places := [][]int{}
	for _, d := range l {
		_, p := otherBuild(d)
		places = append(places, p)
	}
	places[2] = []int{40}
	merged(t, l, behind(numbered(40), strings.Repeat("x", 41)), places)
}

func TestMergeOfEveryKind(t *testing.T) {
	r := rand.New(rand.NewSource(9))
	for range 3000 {
		var l [][]string
		var all []string
		for range r.Intn(6) {
			d, _ := otherBuild(someTexts(r, 20))
			l, all = append(l, d), append(all, d...)
		}
		want, _ := otherBuild(all)
		var places [][]int
		for _, d := range l {
			var p []int
			for _, s := range d {
				p = append(p, sort.SearchStrings(want, s))
			}
			places = append(places, p)
		}
		merged(t, l, want, places)
	}
}

func TestListsThatDoNotRise(t *testing.T) {
	r := rand.New(rand.NewSource(10))
	for range 4000 {
		l := someTexts(r, 40)
		given := filled(l)
		for _, s := range append(someTexts(r, 5), l...) {
			dict.Find(given, s)
			dict.From(given, s)
		}
		other := someTexts(r, 10)
		dict.Merge([][]string{given, other, given})
		dict.Fits(given)
		dict.Encode(given)
		untouched(t, given, l)
	}
	same := make([]string, 1<<16)
	dict.Find(same, "")
	dict.From(same, "")
	dict.Merge([][]string{same, {"a"}, same})
}

// scribble overwrites all of l's memory, its spare room too.
func scribble[T any](l []T, with T) {
	for i := range l[:cap(l)] {
		l[:cap(l)][i] = with
	}
}

func TestAnswersAreNewMemory(t *testing.T) {
	rising := []string{"a", "b", "c"}
	given := filled(rising)
	d, places := dict.Build(given)
	scribble(d, "?")
	scribble(places, 9)
	untouched(t, given, rising)
	d, places = dict.Build(given)
	scribble(given, "!")
	if !slices.Equal(d, rising) || !slices.Equal(places, []int{0, 1, 2}) {
		t.Errorf("R2: Build's answer changes with what was handed in or another answer: %q, %v", d, places)
	}

	given = filled(rising)
	b, _ := dict.Encode(given)
	scribble(b, 0x11)
	b, _ = dict.Encode(given)
	scribble(given, "!")
	if string(b) != written(rising...) {
		t.Errorf("R2: Encode's answer changes with what was handed in or another answer: %x", b)
	}

	bytesGiven := filledBytes(written(rising...))
	d, _, _ = dict.Decode(bytesGiven, 0)
	scribble(d, "?")
	untouchedBytes(t, bytesGiven, written(rising...))
	d, _, _ = dict.Decode(bytesGiven, 0)
	scribble(bytesGiven, 0x11)
	if !slices.Equal(d, rising) {
		t.Errorf("R2: Decode's answer changes with what was handed in or another answer: %q", d)
	}
}

func TestMergesAnswersShareNoMemory(t *testing.T) {
	l := [][]string{{"a", "c"}, {}, {"b"}, {"a", "b", "c"}, {"c"}}
	want := [][]int{{0, 2}, {}, {1}, {0, 1, 2}, {2}}
	for turned := range l {
		given := [][]string{}
		for _, d := range l {
			given = append(given, filled(d))
		}
		m, places := dict.Merge(given)
		scribble(places[turned], 9)
		for i, d := range l {
			untouched(t, given[i], d)
			scribble(given[i], "!")
			if i != turned && !slices.Equal(places[i], want[i]) {
				t.Errorf("R2: the places at %d change with those at %d: %v", i, turned, places[i])
			}
		}
		if !slices.Equal(m, []string{"a", "b", "c"}) {
			t.Errorf("R2: Merge's dictionary changes with what was handed in: %q", m)
		}
	}
	one := filled([]string{"a", "b"})
	m, places := dict.Merge([][]string{one})
	scribble(m, "?")
	scribble(places, nil)
	untouched(t, one, []string{"a", "b"})
	merged(t, [][]string{{"a", "b"}}, []string{"a", "b"}, [][]int{{0, 1}})
}

func TestLongListsTakeNoLongTime(t *testing.T) {
	const n = 1 << 17
	rising := numbered(n)
	falling := slices.Clone(rising)
	slices.Reverse(falling)
	mixed := slices.Clone(rising)
	rand.New(rand.NewSource(11)).Shuffle(n, func(i, j int) { mixed[i], mixed[j] = mixed[j], mixed[i] })
	for _, l := range [][]string{rising, falling, mixed} {
		d, places := dict.Build(l)
		if !slices.Equal(d, rising) || len(places) != n {
			t.Fatalf("P7.1: Build of %d texts: %d, %d", n, len(d), len(places))
		}
		for i, place := range places {
			if d[place] != l[i] {
				t.Fatalf("P7.1: Build of %d texts: the place of %q is %d", n, l[i], place)
			}
		}
	}
	if d, places := dict.Build(make([]string, n)); !slices.Equal(d, []string{""}) || slices.Max(places) != 0 || len(places) != n {
		t.Errorf("P7.1: Build of %d like texts: %d, %d", n, len(d), len(places))
	}
	var parts [][]string
	for _, s := range rising[:1<<12] {
		parts = append(parts, []string{s})
	}
	parts = append(parts, rising)
	m, places := dict.Merge(parts)
	if !slices.Equal(m, rising) || len(places) != len(parts) || places[4095][0] != 4095 || places[4096][n-1] != n-1 {
		t.Errorf("P7.2: Merge of %d dictionaries: %d, %d", len(parts), len(m), len(places))
	}
	for i, s := range rising {
		if place, ok := dict.Find(rising, s); place != i || !ok {
			t.Fatalf("P7.1: Find of %q among %d: %d, %v", s, n, place, ok)
		}
	}
}
