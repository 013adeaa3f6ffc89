package ticks_test

import (
	"bytes"
	"encoding/binary"
	"fmt"
	"math"
	"math/rand"
	"slices"
	"sort"
	"strings"
	"testing"

	"columbarium/api"
	"columbarium/ticks"
)

const (
	most  = 1 << 20
	room  = 8 // items behind a list's length
	early = math.MinInt64
	late  = math.MaxInt64
)

func isZero(x ticks.Index) bool {
	return x.Rows == 0 && x.Last == 0 && len(x.At) == 0
}

func same(x, y ticks.Index) bool {
	return x.Rows == y.Rows && x.Last == y.Last && slices.Equal(x.At, y.At)
}

// told answers x in words, without the most of a long list.
func told(x ticks.Index) string {
	return fmt.Sprintf("{%d rows, last %d, %d times %.60s}", x.Rows, x.Last, len(x.At), fmt.Sprint(x.At[:min(len(x.At), 9)]))
}

// filled answers l's times with others behind them: they rise or fall, and would turn an answer if they were read.
func filled(l []int64) []int64 {
	out := slices.Clone(l)
	for i := range int64(room) {
		out = append(out, (i-3)*1000)
	}
	return out[:len(l)]
}

// untouched fails if a call changed what filled(l) made.
func untouched(t *testing.T, given, l []int64) {
	t.Helper()
	if !slices.Equal(given[:len(l)+room], filled(l)[:len(l)+room]) {
		t.Errorf("R2: times that were handed in were changed: %d of them", len(l))
	}
}

// filledBytes answers s's bytes with bytes behind them that would end a number.
func filledBytes(s string) []byte {
	b := make([]byte, len(s)+room)
	copy(b, s)
	return b[:len(s)]
}

func untouchedBytes(t *testing.T, b []byte, s string) {
	t.Helper()
	if !bytes.Equal(b[:len(s)+room], filledBytes(s)[:len(s)+room]) {
		t.Errorf("R2: what was handed in as %.40x was changed", s)
	}
}

// otherBuild is another reckoning of Build: the library tells whether times rise, and parts them.
func otherBuild(l []int64) (ticks.Index, api.Errno) {
	if !slices.IsSorted(l) || len(l) >= most+1 {
		return ticks.Index{}, api.ErrForm
	}
	x := ticks.Index{Rows: len(l)}
	for part := range slices.Chunk(l, 4) {
		x.At = append(x.At, part[0])
		x.Last = part[len(part)-1]
	}
	return x, api.OK
}

// otherRight is another reckoning of Right: if x is the index of any times, it is that of those which rise as seldom as may be.
func otherRight(x ticks.Index) bool {
	if x.Rows < 0 || x.Rows > most || len(x.At)*4 < x.Rows {
		return false
	}
	l := make([]int64, x.Rows)
	for i := range l {
		l[i] = x.At[i/4]
	}
	if len(l) > 0 {
		l[len(l)-1] = x.Last
	}
	y, why := otherBuild(l)
	return why == api.OK && same(x, y)
}

// otherSpan is another reckoning of Span: the library halves the times.
func otherSpan(x ticks.Index, lo, hi int64) (int, int) {
	if !otherRight(x) || x.Rows == 0 || lo > hi || hi < x.At[0] || lo > x.Last {
		return 0, 0
	}
	below := sort.Search(len(x.At), func(i int) bool { return x.At[i] >= lo })
	above := sort.Search(len(x.At), func(i int) bool { return x.At[i] > hi })
	return 4 * max(0, below-1), min(4*above, x.Rows)
}

// head answers a number as it is written, by the library.
func head(n uint64) string {
	return string(binary.AppendUvarint(nil, n))
}

// zig answers a time as it is written, by the library.
func zig(n int64) string {
	return string(binary.AppendVarint(nil, n))
}

// row answers times as delta writes them, by the library.
func row(l []int64) string {
	b := binary.AppendUvarint(nil, uint64(len(l)))
	for i, n := range l {
		switch i {
		case 0:
			b = binary.AppendVarint(b, n)
		case 1:
			b = binary.AppendVarint(b, n-l[0])
		default:
			b = binary.AppendVarint(b, n-2*l[i-1]+l[i-2])
		}
	}
	return string(b)
}

// written answers x as Encode writes it, whether it is Right or not.
func written(x ticks.Index) string {
	return head(uint64(x.Rows)) + zig(x.Last) + row(x.At)
}

// otherGet reads a number at the front of s, and answers what is behind it.
func otherGet(s string) (uint64, string, api.Errno) {
	if !strings.ContainsFunc(s, func(c rune) bool { return c < 128 }) {
		return 0, "", api.ErrEnd
	}
	// Uvarint takes more than one writing of a number.
	n, size := binary.Uvarint([]byte(s))
	if size <= 0 || head(n) != s[:size] {
		return 0, "", api.ErrForm
	}
	return n, s[size:], api.OK
}

func back(n uint64) int64 {
	v, _ := binary.Varint(binary.AppendUvarint(nil, n))
	return v
}

// otherTimes reads times at the front of s, and answers what is behind them.
func otherTimes(s string) ([]int64, string, api.Errno) {
	n, s, why := otherGet(s)
	if why != api.OK {
		return nil, "", why
	}
	if n > most/4 {
		return nil, "", api.ErrMany
	}
	l := []int64{}
	for i := range int(n) {
		var v uint64
		v, s, why = otherGet(s)
		if why != api.OK {
			return nil, "", why
		}
		switch i {
		case 0:
			l = append(l, back(v))
		case 1:
			l = append(l, back(v)+l[0])
		default:
			l = append(l, back(v)+2*l[i-1]-l[i-2])
		}
	}
	return l, s, api.OK
}

// otherDecode is another reckoning of Decode.
func otherDecode(s string, at int) (ticks.Index, int, api.Errno) {
	none := ticks.Index{}
	if at < 0 || at > len(s) {
		return none, 0, api.ErrArg
	}
	rows, rest, why := otherGet(s[at:])
	if why != api.OK {
		return none, 0, why
	}
	last, rest, why := otherGet(rest)
	if why != api.OK {
		return none, 0, why
	}
	l, rest, why := otherTimes(rest)
	if why != api.OK {
		return none, 0, why
	}
	x := ticks.Index{Rows: int(rows % (1 << 31)), Last: back(last), At: l}
	if rows >= 1<<31 || !otherRight(x) {
		return none, 0, api.ErrForm
	}
	return x, len(s) - len(rest), api.OK
}

// built fails unless Build of l answers what the other reckoning does.
func built(t *testing.T, name string, l []int64) ticks.Index {
	t.Helper()
	given := filled(l)
	x, why := ticks.Build(given)
	want, wantWhy := otherBuild(l)
	if !same(x, want) || why != wantWhy {
		t.Errorf("P10.1: Build of %d times, %s: %s, %d, want %s, %d", len(l), name, told(x), why, told(want), wantWhy)
	}
	untouched(t, given, l)
	if why == api.OK && !ticks.Right(x) {
		t.Errorf("P10.1: Build of %d times, %s, is not Right: %s", len(l), name, told(x))
	}
	return x
}

// unbuilt fails unless Build of l answers ErrForm alone.
func unbuilt(t *testing.T, name string, l []int64) {
	t.Helper()
	given := filled(l)
	if x, why := ticks.Build(given); !isZero(x) || why != api.ErrForm {
		t.Errorf("P10.1: Build of %d times, %s: %s, %d, want ErrForm", len(l), name, told(x), why)
	}
	untouched(t, given, l)
}

// spans fails unless Span of x answers that.
func spans(t *testing.T, name string, x ticks.Index, lo, hi int64, wantFrom, wantTo int) {
	t.Helper()
	y := ticks.Index{Rows: x.Rows, Last: x.Last, At: filled(x.At)}
	from, to := ticks.Span(y, lo, hi)
	if from != wantFrom || to != wantTo {
		t.Errorf("P10.1: Span(%s, %d, %d), %s: %d, %d, want %d, %d", told(x), lo, hi, name, from, to, wantFrom, wantTo)
	}
	untouched(t, y.At, x.At)
}

// asked fails unless Span of l's index answers what the other reckoning does, and leaves no row out.
func asked(t *testing.T, name string, l []int64, lo, hi int64) {
	t.Helper()
	x, _ := otherBuild(l)
	from, to := otherSpan(x, lo, hi)
	spans(t, name, x, lo, hi, from, to)
	from, to = ticks.Span(x, lo, hi)
	if from < 0 || from > to || to > len(l) {
		t.Fatalf("P10.1: Span of %d times is none: %d, %d", len(l), from, to)
	}
	for i, n := range l {
		if lo <= n && n <= hi && (i < from || i >= to) {
			t.Errorf("P10.1: Span(Build(%d), %d, %d), %s: %d, %d: the row %d is outside", l, lo, hi, name, from, to, i)
		}
	}
}

// right fails unless Right and Encode of x answer that, and what is written is read again.
func right(t *testing.T, name string, x ticks.Index, want bool) {
	t.Helper()
	y := ticks.Index{Rows: x.Rows, Last: x.Last, At: filled(x.At)}
	if got := ticks.Right(y); got != want {
		t.Errorf("P10.1: Right(%s), %s: %v", told(x), name, got)
	}
	b, why := ticks.Encode(y)
	untouched(t, y.At, x.At)
	if !want {
		if len(b) != 0 || why != api.ErrForm {
			t.Errorf("P10.2: Encode(%s), %s: %.40x, %d, want ErrForm", told(x), name, b, why)
		}
		spans(t, name, x, early, late, 0, 0)
		spans(t, name, x, 0, 3, 0, 0)
		return
	}
	s := written(x)
	if string(b) != s || why != api.OK {
		t.Errorf("P10.2: Encode(%s), %s: %.40x, %d, want %.40x", told(x), name, b, why, s)
	}
	decoded(t, name, s, 0, x, len(s), api.OK)
	decoded(t, name+", behind others", "zz"+s, 2, x, len(s)+2, api.OK)
	decoded(t, name+", among others", "\x80"+s+"\x80\x00", 1, x, len(s)+1, api.OK)
}

// wrong fails unless x is not Right, and is neither asked, written nor read.
func wrong(t *testing.T, name string, x ticks.Index) {
	t.Helper()
	right(t, name, x, false)
	refused(t, name, written(x), 0, api.ErrForm)
}

// decoded fails unless Decode of s at at answers that.
func decoded(t *testing.T, name, s string, at int, want ticks.Index, wantEnd int, wantWhy api.Errno) {
	t.Helper()
	b := filledBytes(s)
	x, end, why := ticks.Decode(b, at)
	if !same(x, want) || end != wantEnd || why != wantWhy {
		t.Errorf("P10.2: Decode(%.40x, %d), %s: %s, %d, %d, want %s, %d, %d", s, at, name, told(x), end, why, told(want), wantEnd, wantWhy)
	}
	untouchedBytes(t, b, s)
}

// refused fails unless Decode of s at at answers that refusal and nothing else.
func refused(t *testing.T, name, s string, at int, want api.Errno) {
	t.Helper()
	decoded(t, name, s, at, ticks.Index{}, 0, want)
}

// evenly answers n times from first on, a step from one another.
func evenly(n int, first, step int64) []int64 {
	l := make([]int64, n)
	for i := range l {
		l[i] = first + int64(i)*step
	}
	return l
}

func TestTheChaptersRun(t *testing.T) {
	x, why := ticks.Build([]int64{1, 2, 3, 4, 5, 6, 7, 8, 9})
	if why != api.OK {
		t.Fatalf("P10.1: Build(1 to 9): %d", why)
	}
	if from, to := ticks.Span(x, 5, 6); from != 0 || to != 8 {
		t.Errorf("P10.1: Span(Build(1 to 9), 5, 6): %d, %d, want 0, 8", from, to)
	}
	unbuilt(t, "the chapter's", []int64{2, 1})
	if ticks.Every != 4 {
		t.Errorf("Every: %d", ticks.Every)
	}
}

func TestSpanOfAllTime(t *testing.T) {
	for n := range 40 {
		for _, step := range []int64{0, 1, 7} {
			l := evenly(n, -20, step)
			x := built(t, "evenly", l)
			spans(t, "all time", x, early, late, 0, n)
			if n > 0 {
				spans(t, "the first to Last", x, l[0], l[n-1], 0, n)
			}
		}
	}
	ends := built(t, "the ends of time", []int64{early, early, 0, late, late, late})
	spans(t, "all time", ends, early, late, 0, 6)
}

func TestBuild(t *testing.T) {
	for _, c := range []struct {
		l    []int64
		want ticks.Index
	}{
		{nil, ticks.Index{}},
		{[]int64{}, ticks.Index{}},
		{[]int64{7}, ticks.Index{Rows: 1, Last: 7, At: []int64{7}}},
		{[]int64{0}, ticks.Index{Rows: 1, At: []int64{0}}},
		{[]int64{1, 2, 3}, ticks.Index{Rows: 3, Last: 3, At: []int64{1}}},
		{[]int64{1, 2, 3, 4}, ticks.Index{Rows: 4, Last: 4, At: []int64{1}}},
		{[]int64{1, 2, 3, 4, 5}, ticks.Index{Rows: 5, Last: 5, At: []int64{1, 5}}},
		{[]int64{1, 2, 3, 4, 5, 6, 7, 8}, ticks.Index{Rows: 8, Last: 8, At: []int64{1, 5}}},
		{[]int64{1, 2, 3, 4, 5, 6, 7, 8, 9}, ticks.Index{Rows: 9, Last: 9, At: []int64{1, 5, 9}}},
		{[]int64{3, 3, 3, 3, 3}, ticks.Index{Rows: 5, Last: 3, At: []int64{3, 3}}},
		{[]int64{-9, -9, -1, 0, 0, 20, 20, 300}, ticks.Index{Rows: 8, Last: 300, At: []int64{-9, 0}}},
		{[]int64{-9, -5}, ticks.Index{Rows: 2, Last: -5, At: []int64{-9}}},
		{[]int64{early}, ticks.Index{Rows: 1, Last: early, At: []int64{early}}},
		{[]int64{late}, ticks.Index{Rows: 1, Last: late, At: []int64{late}}},
		{[]int64{early, late}, ticks.Index{Rows: 2, Last: late, At: []int64{early}}},
		{[]int64{early, 0, 0, late, late}, ticks.Index{Rows: 5, Last: late, At: []int64{early, late}}},
	} {
		x, why := ticks.Build(c.l)
		if !same(x, c.want) || why != api.OK {
			t.Errorf("P10.1: Build(%d): %s, %d, want %s", c.l, told(x), why, told(c.want))
		}
		right(t, "built", c.want, true)
	}
}

func TestBuildOfEachLength(t *testing.T) {
	for n := range 70 {
		for _, step := range []int64{0, 1, 5, 1 << 50} {
			for _, first := range []int64{early, -30, 0, 1, 1 << 40} {
				right(t, "evenly", built(t, "evenly", evenly(n, first, step)), true)
			}
		}
	}
}

func TestTimesThatFall(t *testing.T) {
	for n := 2; n <= 21; n++ {
		for i := 1; i < n; i++ {
			for _, step := range []int64{0, 1, 2, 9} {
				l := evenly(n, 100, step)
				l[i] = l[i-1]
				l = append(l[:i+1], evenly(n-i-1, l[i], step)...)
				built(t, "an equal one", l)
				for _, fall := range []int64{1, 2, 1000} {
					k := slices.Clone(l)
					k[i] -= fall
					unbuilt(t, "one that falls", k)
					for j := i; j < n; j++ {
						k[j] = l[j] - fall
					}
					unbuilt(t, "all of them from one on fall", k)
				}
			}
		}
	}
	// Held against one another, not by their difference: that wraps round.
	unbuilt(t, "from the end of time to its beginning", []int64{late, early})
	unbuilt(t, "from the end of time to its beginning, in the midst", []int64{1, late, early, 2})
	unbuilt(t, "a great fall", []int64{1 << 62, -1<<62 - 1})
	unbuilt(t, "a great fall at a time that is kept", []int64{0, 0, 0, late, early})
	unbuilt(t, "a fall of one from the end of time", []int64{late, late - 1})
	unbuilt(t, "a fall of one to the beginning of time", []int64{early + 1, early})
	built(t, "a great rise", []int64{-1<<62 - 1, 1 << 62})
}

func TestLongLists(t *testing.T) {
	for _, step := range []int64{0, 1, 1 << 30} {
		x := built(t, "the most", evenly(most, -5, step))
		if x.Rows != most || len(x.At) != most/4 {
			t.Errorf("P10.1: Build of 2^20 times: %s", told(x))
		}
		right(t, "the most", x, true)
		asked(t, "the most", evenly(most, -5, step), 1000, 2000)
		asked(t, "the most", evenly(most, -5, step), early, late)
		built(t, "one less than the most", evenly(most-1, -5, step))
		right(t, "one less than the most", built(t, "three less", evenly(most-3, -5, step)), true)
		unbuilt(t, "one more than the most", evenly(most+1, -5, step))
		unbuilt(t, "four more than the most", evenly(most+4, -5, step))
		unbuilt(t, "twice the most", evenly(2*most, -5, step))
	}
	unbuilt(t, "one more than the most, that fall", evenly(most+1, 0, -1))
	unbuilt(t, "the most, that fall", evenly(most, 0, -1))
	l := evenly(most, 0, 1)
	l[most-1] = most - 3
	unbuilt(t, "the most, the last falls", l)
}

func TestSpan(t *testing.T) {
	x := built(t, "1 to 9", evenly(9, 1, 1))
	far := built(t, "10 to 100", evenly(10, 10, 10))
	equal := built(t, "equal ones", []int64{3, 3, 3, 3, 3, 3, 3, 3, 3, 5})
	for _, c := range []struct {
		x        ticks.Index
		lo, hi   int64
		from, to int
	}{
		{x, 0, 0, 0, 0}, {x, early, 0, 0, 0}, {x, early, 1, 0, 4}, {x, 1, 1, 0, 4}, {x, 2, 2, 0, 4}, {x, 4, 4, 0, 4},
		{x, 4, 5, 0, 8}, {x, 5, 5, 0, 8}, {x, 6, 6, 4, 8}, {x, 6, 8, 4, 8}, {x, 6, 9, 4, 9}, {x, 8, 8, 4, 8},
		{x, 9, 9, 4, 9}, {x, 9, 10, 4, 9}, {x, 9, late, 4, 9}, {x, 10, 10, 0, 0}, {x, 10, late, 0, 0}, {x, 5, 4, 0, 0},
		{x, 9, 1, 0, 0}, {x, late, early, 0, 0}, {x, early, early, 0, 0}, {x, late, late, 0, 0}, {x, 0, 10, 0, 9},
		{far, 9, 9, 0, 0}, {far, 9, 10, 0, 4}, {far, 10, 49, 0, 4}, {far, 10, 50, 0, 8}, {far, 11, 12, 0, 4},
		{far, 50, 50, 0, 8}, {far, 51, 51, 4, 8}, {far, 51, 89, 4, 8}, {far, 90, 90, 4, 10}, {far, 91, 91, 8, 10},
		{far, 91, 99, 8, 10}, {far, 100, 100, 8, 10}, {far, 101, 101, 0, 0}, {far, 99, 91, 0, 0},
		{equal, 3, 3, 0, 10}, {equal, 2, 2, 0, 0}, {equal, 4, 4, 8, 10}, {equal, 5, 5, 8, 10}, {equal, 6, 6, 0, 0}, {equal, 3, 5, 0, 10},
	} {
		spans(t, "by hand", c.x, c.lo, c.hi, c.from, c.to)
	}
	for _, none := range []ticks.Index{{}, {At: []int64{}}} {
		spans(t, "no rows", none, early, late, 0, 0)
		spans(t, "no rows", none, 0, 0, 0, 0)
	}
}

func TestSpansOfSmallLists(t *testing.T) {
	for n := range 15 {
		for _, step := range []int64{0, 1, 2, 3} {
			l := evenly(n, 0, step)
			for lo := int64(-2); lo <= int64(n)*step+2; lo++ {
				for hi := int64(-2); hi <= int64(n)*step+2; hi++ {
					asked(t, "evenly", l, lo, hi)
				}
			}
		}
	}
}

func TestSpansAtTheEndsOfTime(t *testing.T) {
	some := []int64{early, early + 1, -1, 0, 1, late - 1, late}
	for _, l := range [][]int64{
		{early}, {late}, {early, late}, {early, early, early, early, early}, {late, late, late, late, late},
		{early, early, early, early, late, late, late, late, late},
		{early, early + 1, 0, 0, 0, 0, 0, 0, late - 1, late},
	} {
		right(t, "the ends of time", built(t, "the ends of time", l), true)
		for _, lo := range some {
			for _, hi := range some {
				asked(t, "the ends of time", l, lo, hi)
			}
		}
	}
}

func TestRight(t *testing.T) {
	for name, x := range map[string]ticks.Index{
		"no rows":                        {},
		"no rows, an empty list":         {At: []int64{}},
		"one row":                        {Rows: 1, Last: 5, At: []int64{5}},
		"two rows":                       {Rows: 2, Last: 6, At: []int64{5}},
		"two equal rows":                 {Rows: 2, Last: 5, At: []int64{5}},
		"four rows":                      {Rows: 4, Last: 6, At: []int64{5}},
		"five rows":                      {Rows: 5, Last: 6, At: []int64{5, 6}},
		"six rows, a later last":         {Rows: 6, Last: 7, At: []int64{5, 6}},
		"six rows, equal ones":           {Rows: 6, Last: 5, At: []int64{5, 5}},
		"eight rows":                     {Rows: 8, Last: 9, At: []int64{-5, 6}},
		"nine rows":                      {Rows: 9, Last: 9, At: []int64{-5, 6, 9}},
		"the ends of time":               {Rows: 8, Last: late, At: []int64{early, late}},
		"the ends of time, one time":     {Rows: 4, Last: late, At: []int64{early}},
		"the beginning of time alone":    {Rows: 3, Last: early, At: []int64{early}},
		"times below 0, Last 0":          {Rows: 3, At: []int64{-4}},
		"the most rows":                  {Rows: most, At: make([]int64, most/4)},
		"the most rows, a later last":    {Rows: most, Last: 1, At: make([]int64, most/4)},
		"three less, Last is kept":       {Rows: most - 3, At: make([]int64, most/4)},
		"two less, Last is kept no more": {Rows: most - 2, Last: 1, At: make([]int64, most/4)},
	} {
		right(t, name, x, true)
	}
	for name, x := range map[string]ticks.Index{
		"one row below 0":                 {Rows: -1},
		"one row below 0, a time":         {Rows: -1, At: []int64{0}},
		"three rows below 0":              {Rows: -3},
		"four rows below 0":               {Rows: -4},
		"the least rows":                  {Rows: math.MinInt},
		"the least rows, but one":         {Rows: math.MinInt + 1, At: []int64{0}},
		"the greatest rows":               {Rows: math.MaxInt},
		"the greatest rows, a time":       {Rows: math.MaxInt, At: []int64{0}},
		"rows above what 32 bits bear":    {Rows: 1<<32 + 1, At: []int64{0}},
		"rows that 32 bits bear not":      {Rows: 1 << 32},
		"one more than the most":          {Rows: most + 1, At: make([]int64, most/4+1)},
		"one more than the most, no more": {Rows: most + 1, At: make([]int64, most/4)},
		"four more than the most":         {Rows: most + 4, At: make([]int64, most/4+1)},
		"no rows, a time":                 {At: []int64{0}},
		"no rows, a last":                 {Last: 1},
		"no rows, a last below 0":         {Last: -1},
		"no rows, a time and a last":      {Last: 1, At: []int64{1}},
		"one row, no times":               {Rows: 1},
		"one row, two times":              {Rows: 1, At: []int64{0, 0}},
		"one row, a later last":           {Rows: 1, Last: 6, At: []int64{5}},
		"one row, an earlier last":        {Rows: 1, Last: 4, At: []int64{5}},
		"two rows, an earlier last":       {Rows: 2, Last: 4, At: []int64{5}},
		"four rows, no times":             {Rows: 4},
		"four rows, two times":            {Rows: 4, At: []int64{0, 0}},
		"four rows, a time each":          {Rows: 4, At: []int64{0, 0, 0, 0}},
		"five rows, one time":             {Rows: 5, At: []int64{0}},
		"five rows, three times":          {Rows: 5, At: []int64{0, 0, 0}},
		"five rows, a later last":         {Rows: 5, Last: 2, At: []int64{0, 1}},
		"five rows, an earlier last":      {Rows: 5, Last: 0, At: []int64{0, 1}},
		"six rows, an earlier last":       {Rows: 6, Last: 0, At: []int64{0, 1}},
		"eight rows, three times":         {Rows: 8, At: []int64{0, 0, 0}},
		"eight rows, one time":            {Rows: 8, At: []int64{0}},
		"nine rows, two times":            {Rows: 9, At: []int64{0, 0}},
		"nine rows, a later last":         {Rows: 9, Last: 4, At: []int64{1, 2, 3}},
		"times that fall":                 {Rows: 6, Last: 9, At: []int64{1, 0}},
		"times that fall at the front":    {Rows: 12, Last: 9, At: []int64{1, 0, 2}},
		"times that fall in the midst":    {Rows: 16, Last: 9, At: []int64{1, 3, 2, 4}},
		"times that fall at the end":      {Rows: 12, Last: 9, At: []int64{1, 3, 2}},
		"times that fall, Last is kept":   {Rows: 9, Last: 2, At: []int64{1, 3, 2}},
		"a fall that wraps round":         {Rows: 8, Last: late, At: []int64{late, early}},
		"a last that wraps round":         {Rows: 4, Last: early, At: []int64{late}},
		"falls, and too many":             {Rows: 6, Last: 9, At: []int64{1, 0, 0}},
		"three less, a later last":        {Rows: most - 3, Last: 1, At: make([]int64, most/4)},
		"the most, an earlier last":       {Rows: most, Last: -1, At: make([]int64, most/4)},
		"the most, one time lacks":        {Rows: most, At: make([]int64, most/4-1)},
	} {
		right(t, name, x, false)
		if len(x.At) <= most/4 {
			wrong(t, name, x)
		}
	}
}

func TestRightOfAllSmallIndexes(t *testing.T) {
	lists := [][]int64{nil}
	for from := 0; len(lists) < 1+3+9+27; {
		next := len(lists)
		for _, l := range lists[from:] {
			for n := range int64(3) {
				lists = append(lists, append(slices.Clone(l), n))
			}
		}
		from = next
	}
	for rows := -5; rows <= 17; rows++ {
		for last := int64(-1); last <= 3; last++ {
			for _, l := range lists {
				x := ticks.Index{Rows: rows, Last: last, At: l}
				right(t, "any small one", x, otherRight(x))
				from, to := otherSpan(x, 1, 2)
				spans(t, "any small one", x, 1, 2, from, to)
				if rows < 0 || !otherRight(x) {
					refused(t, "any small one", written(x), 0, api.ErrForm)
				}
			}
		}
	}
}

func TestEncode(t *testing.T) {
	for _, c := range []struct {
		l    []int64
		want string
	}{
		{nil, "\x00\x00\x00"},
		{[]int64{7}, "\x01\x0e\x01\x0e"},
		{[]int64{-2, -1}, "\x02\x01\x01\x03"},
		{[]int64{1, 2, 3, 4, 5, 6, 7, 8, 9}, "\x09\x12\x03\x02\x08\x00"},
		{[]int64{3, 3, 3, 3, 3}, "\x05\x06\x02\x06\x00"},
		{[]int64{10, 10, 10, 10, 20, 20, 20, 20, 25, 300}, "\x0a\xd8\x04\x03\x14\x14\x09"},
		{[]int64{early, late}, "\x02\xfe\xff\xff\xff\xff\xff\xff\xff\xff\x01\x01\xff\xff\xff\xff\xff\xff\xff\xff\xff\x01"},
		{[]int64{early, 0, 0, 0, late}, "\x05\xfe\xff\xff\xff\xff\xff\xff\xff\xff\x01\x02\xff\xff\xff\xff\xff\xff\xff\xff\xff\x01\x01"},
	} {
		x, _ := ticks.Build(c.l)
		b, why := ticks.Encode(x)
		if string(b) != c.want || why != api.OK {
			t.Errorf("P10.2: Encode of Build(%d): %x, %d, want %x", c.l, b, why, c.want)
		}
		decoded(t, "by hand", c.want, 0, x, len(c.want), api.OK)
	}
	for n := range 140 {
		right(t, "evenly", built(t, "evenly", evenly(n, -70, 3)), true)
	}
}

func TestReadAndAsked(t *testing.T) {
	for n := 1; n < 40; n++ {
		l := evenly(n, -10, 2)
		b, _ := ticks.Encode(built(t, "evenly", l))
		x, end, why := ticks.Decode(append([]byte("zz"), b...), 2)
		if end != len(b)+2 || why != api.OK {
			t.Errorf("P10.2: Decode of an index of %d rows: %d, %d", n, end, why)
		}
		for _, lo := range []int64{-11, -10, 0, 3, 20} {
			from, to := otherSpan(x, lo, lo+5)
			spans(t, "written and read", x, lo, lo+5, from, to)
		}
	}
}

// The parts of an index of five rows with the times 0 and 1.
const five, lastOne, twoTimes = "\x05", "\x02", "\x02\x00\x02"

func TestDecodesRefusals(t *testing.T) {
	longer := "\x80\x00" // 0 in two bytes
	eleven := strings.Repeat("\x80", 10) + "\x01"
	great := strings.Repeat("\xff", 9) + "\x02"
	cut := strings.Repeat("\x80", 30)
	for _, c := range []struct {
		name, s string
		want    api.Errno
	}{
		{"no bytes", "", api.ErrEnd},
		{"Rows cut off", "\x80", api.ErrEnd},
		{"Rows cut off, too long", cut, api.ErrEnd},
		{"Rows in a longer writing", longer + "\x00\x00", api.ErrForm},
		{"Rows in a longer writing, bytes lack", longer, api.ErrForm},
		{"Rows in a longer writing, too many times", longer + "\x00" + head(most/4+1), api.ErrForm},
		{"Rows of more than 64 bits", great + "\x00\x00", api.ErrForm},
		{"Rows of eleven bytes", eleven + "\x00\x00", api.ErrForm},
		{"no Last", five, api.ErrEnd},
		{"Last cut off", five + "\x80", api.ErrEnd},
		{"Last cut off, too long", five + cut, api.ErrEnd},
		{"Last in a longer writing", five + "\x82\x00" + twoTimes, api.ErrForm},
		{"Last in a longer writing, bytes lack", five + longer, api.ErrForm},
		{"Last in a longer writing, too many times", five + longer + head(most/4+1), api.ErrForm},
		{"Last of more than 64 bits", five + great + twoTimes, api.ErrForm},
		{"Last of eleven bytes", five + eleven + twoTimes, api.ErrForm},
		{"no times", five + lastOne, api.ErrEnd},
		{"how many times, cut off", five + lastOne + "\x82", api.ErrEnd},
		{"how many times, cut off, too long", five + lastOne + cut, api.ErrEnd},
		{"how many times, in a longer writing", five + lastOne + "\x82\x00\x00\x02", api.ErrForm},
		{"how many times, of more than 64 bits", five + lastOne + great, api.ErrForm},
		{"2^18 times and one more", five + lastOne + head(most/4+1), api.ErrMany},
		{"2^18 times and one more, all there", head(most+1) + lastOne + head(most/4+1) + strings.Repeat("\x00", most/4+1), api.ErrMany},
		{"2^32 + 2 times", five + lastOne + head(1<<32+2) + "\x00\x02", api.ErrMany},
		{"2^63 times", five + lastOne + head(1<<63), api.ErrMany},
		{"2^64 - 1 times", five + lastOne + head(math.MaxUint64), api.ErrMany},
		{"2^18 times, none there", five + lastOne + head(most/4), api.ErrEnd},
		{"2^18 times, one lacks", head(most) + lastOne + head(most/4) + strings.Repeat("\x00", most/4-1), api.ErrEnd},
		{"both times lack", five + lastOne + "\x02", api.ErrEnd},
		{"a time lacks", five + lastOne + "\x02\x00", api.ErrEnd},
		{"a time cut off", five + lastOne + "\x02\x00\x82", api.ErrEnd},
		{"a time in a longer writing", five + lastOne + "\x02\x00\x82\x00", api.ErrForm},
		{"a time in a longer writing, the next lacks", five + lastOne + "\x02" + longer, api.ErrForm},
		{"a time of eleven bytes", five + lastOne + "\x02\x00" + eleven, api.ErrForm},
		{"2^20 + 1 Rows, bytes lack", head(most + 1), api.ErrEnd},
		{"2^20 + 1 Rows, times lack", head(most+1) + lastOne + "\x02\x00", api.ErrEnd},
		{"2^20 + 1 Rows, too many times", head(most+1) + lastOne + head(most/4+1), api.ErrMany},
		{"2^20 + 1 Rows", head(most+1) + lastOne + twoTimes, api.ErrForm},
		{"2^20 + 1 Rows, 2^18 times", head(most+1) + "\x00" + head(most/4) + strings.Repeat("\x00", most/4), api.ErrForm},
		{"2^32 Rows", head(1<<32) + "\x00\x00", api.ErrForm},
		{"2^32 + 5 Rows", head(1<<32+5) + lastOne + twoTimes, api.ErrForm},
		{"2^63 - 1 Rows", head(math.MaxInt64) + lastOne + twoTimes, api.ErrForm},
		{"2^63 Rows", head(1<<63) + "\x00\x00", api.ErrForm},
		{"2^63 + 5 Rows", head(1<<63+5) + lastOne + twoTimes, api.ErrForm},
		{"2^64 - 1 Rows", head(math.MaxUint64) + "\x00\x00", api.ErrForm},
		{"2^64 - 1 Rows, bytes lack", head(math.MaxUint64), api.ErrEnd},
		{"2^64 - 1 Rows, too many times", head(math.MaxUint64) + lastOne + head(most/4+1), api.ErrMany},
		{"no Rows, a Last", "\x00\x02\x00", api.ErrForm},
		{"no Rows, a time", "\x00\x00\x01\x00", api.ErrForm},
		{"no Rows, a Last, the time lacks", "\x00\x02\x01", api.ErrEnd},
		{"no Rows, too many times", "\x00\x02" + head(most/4+1), api.ErrMany},
		{"five Rows, one time", five + lastOne + "\x01\x02", api.ErrForm},
		{"five Rows, three times", five + lastOne + "\x03\x00\x02\x01", api.ErrForm},
		{"four Rows, two times", "\x04" + lastOne + twoTimes, api.ErrForm},
		{"nine Rows, two times", "\x09" + lastOne + twoTimes, api.ErrForm},
		{"an earlier Last", five + "\x00" + twoTimes, api.ErrForm},
		{"a later Last", five + "\x04" + twoTimes, api.ErrForm},
		{"an earlier Last that is not kept", "\x06\x00" + twoTimes, api.ErrForm},
		{"times that fall", "\x06" + lastOne + "\x02\x00\x01", api.ErrForm},
		{"times that fall, Last is kept", five + "\x01\x02\x00\x01", api.ErrForm},
	} {
		refused(t, c.name, c.s, 0, c.want)
		refused(t, c.name+", behind others", "zz"+c.s, 2, c.want)
		refused(t, c.name+", behind an index", "\x01\x0e\x01\x0e"+c.s, 4, c.want)
	}
	x := ticks.Index{Rows: 5, Last: 1, At: []int64{0, 1}}
	decoded(t, "five rows", five+lastOne+twoTimes, 0, x, 5, api.OK)
	decoded(t, "five rows, a byte more", five+lastOne+twoTimes+"\x00", 0, x, 5, api.OK)
	decoded(t, "five rows, a number cut off behind them", five+lastOne+twoTimes+"\x80", 0, x, 5, api.OK)
	decoded(t, "five rows, an index behind them", five+lastOne+twoTimes+"\x01\x0e\x01\x0e", 0, x, 5, api.OK)
	full := ticks.Index{Rows: most, Last: 1, At: make([]int64, most/4)}
	s := head(most) + lastOne + head(most/4) + strings.Repeat("\x00", most/4)
	decoded(t, "2^20 Rows", s, 0, full, len(s), api.OK)
	decoded(t, "2^20 Rows, a byte more", s+"\x00", 0, full, len(s), api.OK)
}

func TestDecodesPlaces(t *testing.T) {
	x := ticks.Index{Rows: 5, Last: 1, At: []int64{0, 1}}
	s := written(x)
	for _, at := range []int{math.MinInt, -2, -1, len(s) + 1, len(s) + 2, len(s) + room, len(s) + room + 1, math.MaxInt} {
		refused(t, "a place that is none", s, at, api.ErrArg)
		refused(t, "a place that is none, wrong bytes", "\x80\x00"+s[2:], at, api.ErrArg)
		refused(t, "a place that is none, too many times", "\x05\x02\x81\x80\x10"[:len(s)], at, api.ErrArg)
	}
	refused(t, "the end", s, len(s), api.ErrEnd)
	decoded(t, "the beginning", s, 0, x, len(s), api.OK)
	refused(t, "a place behind wrong bytes", "\x80", 2, api.ErrArg)
	refused(t, "a place below 0, no bytes", "", -1, api.ErrArg)
	refused(t, "a place behind no bytes", "", 1, api.ErrArg)
	for _, b := range [][]byte{nil, {}} {
		if x, end, why := ticks.Decode(b, 0); !isZero(x) || end != 0 || why != api.ErrEnd {
			t.Errorf("R4: Decode of no bytes: %s, %d, %d", told(x), end, why)
		}
		if x, end, why := ticks.Decode(b, 1); !isZero(x) || end != 0 || why != api.ErrArg {
			t.Errorf("R5: Decode of no bytes at 1: %s, %d, %d", told(x), end, why)
		}
	}
}

func TestACutIsTold(t *testing.T) {
	for _, l := range [][]int64{
		nil, {7}, {early}, {late}, {early, late}, evenly(9, 1, 1), evenly(50, -1000, 300), evenly(130, 1<<40, 1<<33),
		{early, early, early, early, 0, 0, 0, 0, late},
	} {
		s := written(built(t, "to be cut", l))
		for n := range len(s) {
			refused(t, "a cut", s[:n], 0, api.ErrEnd)
			refused(t, "a cut behind others", "\x80"+s[:n], 1, api.ErrEnd)
		}
	}
}

// someTimes answers times that rise: close ones, so that equal ones come often, or any.
func someTimes(r *rand.Rand) []int64 {
	l := make([]int64, r.Intn(30))
	wide := r.Intn(4) == 0
	for i := range l {
		l[i] = r.Int63n(30) - 10
		if wide {
			l[i] = int64(r.Uint64())
		}
	}
	slices.Sort(l)
	return l
}

// someTime answers a time near those of l, or one of any.
func someTime(r *rand.Rand, l []int64) int64 {
	switch n := r.Intn(10); {
	case n == 0:
		return int64(r.Uint64())
	case n < 5 && len(l) > 0:
		return l[r.Intn(len(l))] + int64(r.Intn(3)) - 1
	}
	return r.Int63n(34) - 12
}

func TestListsOfEveryKind(t *testing.T) {
	r := rand.New(rand.NewSource(10))
	for range 20000 {
		l := someTimes(r)
		right(t, "any times", built(t, "any times", l), true)
		for range 4 {
			asked(t, "any times", l, someTime(r, l), someTime(r, l))
		}
		if len(l) > 0 {
			l[r.Intn(len(l))] = someTime(r, l)
			built(t, "one time turned", l)
		}
	}
}

// turned answers x with one of its parts turned.
func turned(r *rand.Rand, x ticks.Index) ticks.Index {
	x.At = slices.Clone(x.At)
	switch r.Intn(6) {
	case 0:
		x.Rows += r.Intn(9) - 4
	case 1:
		x.Last += int64(r.Intn(5)) - 2
	case 2:
		x.Last = int64(r.Uint64())
	case 3:
		x.At = append(x.At, x.Last)
	case 4:
		x.At = x.At[:max(0, len(x.At)-1)]
	case 5:
		if len(x.At) > 0 {
			x.At[r.Intn(len(x.At))] += int64(r.Intn(5)) - 2
		}
	}
	return x
}

func TestIndexesOfEveryKind(t *testing.T) {
	r := rand.New(rand.NewSource(11))
	for range 40000 {
		x, _ := otherBuild(someTimes(r))
		for range 1 + r.Intn(2) {
			x = turned(r, x)
		}
		right(t, "any index", x, otherRight(x))
		lo, hi := someTime(r, x.At), someTime(r, x.At)
		from, to := otherSpan(x, lo, hi)
		spans(t, "any index", x, lo, hi, from, to)
	}
}

// holdBytes fails unless Decode of s answers what the other reckoning does, and Encode answers what was read.
func holdBytes(t *testing.T, s string, at int) {
	t.Helper()
	want, wantEnd, wantWhy := otherDecode(s, at)
	decoded(t, "any bytes", s, at, want, wantEnd, wantWhy)
	x, end, why := ticks.Decode([]byte(s), at)
	if why != api.OK {
		return
	}
	if b, why := ticks.Encode(x); why != api.OK || string(b) != s[at:end] {
		t.Errorf("P10.2: Encode of what was read of %.40x at %d: %.40x, %d", s, at, b, why)
	}
}

func TestBytesOfEveryKind(t *testing.T) {
	r := rand.New(rand.NewSource(12))
	pieces := []string{"\x00", "\x00", "\x01", "\x01", "\x02", "\x02", "\x03", "\x04", "\x05", "\x06", "\x08", "\x09", "\x0a", "\x7f", "\x80", "\x80\x00", "\x80\x01", "\xff\x01", head(most), head(most + 1), head(most / 4), head(most/4 + 1), head(1 << 32), head(1 << 63), head(math.MaxUint64), head(math.MaxUint64 - 1)}
	for range 200000 {
		var s string
		for range r.Intn(9) {
			s += pieces[r.Intn(len(pieces))]
		}
		if r.Intn(8) == 0 {
			s = s[:r.Intn(len(s)+1)]
		}
		holdBytes(t, s, 0)
		holdBytes(t, s, r.Intn(len(s)+4)-2)
	}
	for range 20000 {
		x, _ := otherBuild(someTimes(r))
		b := []byte(written(x))
		b[r.Intn(len(b))] = byte(r.Intn(256))
		holdBytes(t, string(b), 0)
	}
	small := []byte{0, 1, 2, 3, 4, 5, 6, 9, 128}
	for i := range 9 * 9 * 9 * 9 * 9 {
		holdBytes(t, string([]byte{small[i%9], small[i/9%9], small[i/81%9], small[i/729%9], small[i/6561]}), 0)
	}
}

func FuzzDecode(f *testing.F) {
	f.Add([]byte("\x09\x12\x03\x02\x08\x00"), 0)
	f.Add([]byte("zz\x05\x06\x02\x06\x00"), 2)
	f.Add([]byte("\x00\x00\x00"), 3)
	f.Add([]byte("\x01\x02\x81\x80\x10"), 0)
	f.Fuzz(func(t *testing.T, b []byte, at int) {
		holdBytes(t, string(b), at)
	})
}

// timesOf answers b's bytes as times, eight bytes each.
func timesOf(b []byte) []int64 {
	var l []int64
	for ; len(b) >= 8; b = b[8:] {
		l = append(l, int64(binary.LittleEndian.Uint64(b)))
	}
	return l
}

func FuzzIndexes(f *testing.F) {
	f.Add(5, int64(0), make([]byte, 16), int64(0), int64(0))
	f.Add(-1, int64(0), []byte{}, int64(1), int64(0))
	f.Add(9, int64(3), make([]byte, 24), int64(early), int64(late))
	f.Fuzz(func(t *testing.T, rows int, last int64, b []byte, lo, hi int64) {
		x := ticks.Index{Rows: rows, Last: last, At: timesOf(b)}
		right(t, "any index", x, otherRight(x))
		from, to := otherSpan(x, lo, hi)
		spans(t, "any index", x, lo, hi, from, to)
	})
}

func FuzzBuild(f *testing.F) {
	f.Add(make([]byte, 40), int64(0), int64(0))
	f.Add(make([]byte, 72), int64(early), int64(late))
	f.Fuzz(func(t *testing.T, b []byte, lo, hi int64) {
		l := timesOf(b)
		built(t, "any times", l)
		slices.Sort(l)
		right(t, "any times, sorted", built(t, "any times, sorted", l), true)
		asked(t, "any times, sorted", l, lo, hi)
	})
}

// scribble overwrites all of l's memory, its spare room too.
func scribble[T any](l []T, with T) {
	for i := range l[:cap(l)] {
		l[:cap(l)][i] = with
	}
}

func TestAnswersAreNewMemory(t *testing.T) {
	for n := range 12 {
		l := evenly(n, 1, 1)
		want, _ := otherBuild(l)
		given := filled(l)
		first, _ := ticks.Build(given)
		second, _ := ticks.Build(given)
		scribble(first.At, 11)
		untouched(t, given, l)
		scribble(given, 22)
		if !same(second, want) {
			t.Errorf("R2: Build's answer changes with another answer or what was handed in: %s", told(second))
		}

		x := ticks.Index{Rows: want.Rows, Last: want.Last, At: filled(want.At)}
		one, _ := ticks.Encode(x)
		two, _ := ticks.Encode(x)
		scribble(one, 0x11)
		untouched(t, x.At, want.At)
		scribble(x.At, 22)
		if string(two) != written(want) {
			t.Errorf("R2: Encode's answer changes with another answer or what was handed in: %x", two)
		}

		s := "zz" + written(want)
		b := filledBytes(s)
		got, _, _ := ticks.Decode(b, 2)
		other, _, _ := ticks.Decode(b, 2)
		scribble(got.At, 11)
		untouchedBytes(t, b, s)
		scribble(b, 0x22)
		if !same(other, want) {
			t.Errorf("R2: Decode's answer changes with another answer or what was handed in: %s", told(other))
		}
	}
}

func ExampleSpan() {
	x, _ := ticks.Build([]int64{1, 2, 3, 4, 5, 6, 7, 8, 9})
	fmt.Println(x)
	fmt.Println(ticks.Span(x, 5, 6))
	fmt.Println(ticks.Span(x, 6, 8))
	fmt.Println(ticks.Span(x, 10, 20))
	// Output:
	// {9 9 [1 5 9]}
	// 0 8
	// 4 8
	// 0 0
}
