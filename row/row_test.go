package row_test

import (
	"bytes"
	"cmp"
	"encoding/binary"
	"fmt"
	"maps"
	"math"
	"math/rand"
	"regexp"
	"slices"
	"strings"
	"testing"

	"columbarium/api"
	"columbarium/row"
)

const (
	room    = 4 // items behind a list's length
	mostSeq = 1 << 30
	first   = math.MinInt64
	last    = math.MaxInt64
)

func number(col string, n int64) api.Cell {
	return api.Cell{Col: col, Kind: api.Int, N: n}
}

func text(col, s string) api.Cell {
	return api.Cell{Col: col, Kind: api.Text, S: s}
}

func of(time int64, seq int, cells ...api.Cell) api.Row {
	return api.Row{Time: time, Seq: seq, Cells: cells}
}

// with answers a row of which cells alone are of weight.
func with(cells ...api.Cell) api.Row {
	return of(7, 3, cells...)
}

// letters answers the names a, b, c and so on.
func letters(n int) []string {
	var out []string
	for i := range n {
		out = append(out, string(rune('a'+i)))
	}
	return out
}

// numbers answers a row with a number in each of those columns.
func numbers(names ...string) api.Row {
	r := with()
	for i, s := range names {
		r.Cells = append(r.Cells, number(s, int64(i)))
	}
	return r
}

// columns answers columns of one Kind.
func columns(kind int, names ...string) []api.Col {
	var out []api.Col
	for _, s := range names {
		out = append(out, api.Col{Name: s, Kind: kind})
	}
	return out
}

func sameRow(a, b api.Row) bool {
	return a.Time == b.Time && a.Seq == b.Seq && slices.Equal(a.Cells, b.Cells)
}

func sameRows(a, b []api.Row) bool {
	return slices.EqualFunc(a, b, sameRow)
}

// filledRow answers r with cells behind its own that would turn an answer if they were read.
func filledRow(r api.Row) api.Row {
	out := slices.Clone(r.Cells)
	for _, s := range []string{"A", "zz", "zz", "spare"} {
		out = append(out, api.Cell{Col: s, Kind: 9, N: 5, S: "spare"})
	}
	r.Cells = out[:len(r.Cells)]
	return r
}

// filledRows answers l's rows, filled, with rows behind them.
func filledRows(l []api.Row) []api.Row {
	var out []api.Row
	for _, r := range l {
		out = append(out, filledRow(r))
	}
	for i := range room {
		out = append(out, filledRow(of(int64(-i), -i, number("Spare", 1))))
	}
	return out[:len(l)]
}

// filledCols answers cols with columns behind them.
func filledCols(cols []api.Col) []api.Col {
	out := slices.Clone(cols)
	for i := range room {
		out = append(out, api.Col{Name: "Spare", Kind: -i})
	}
	return out[:len(cols)]
}

// filledBytes answers s's bytes with bytes behind them that would end a number.
func filledBytes(s string) []byte {
	b := make([]byte, len(s)+room)
	copy(b, s)
	return b[:len(s)]
}

func untouchedRow(t *testing.T, given, r api.Row) {
	t.Helper()
	size := len(r.Cells)
	if !sameRow(given, r) || !slices.Equal(given.Cells[:size+room], filledRow(r).Cells[:size+room]) {
		t.Errorf("R2: a row that was handed in was changed: %v", r)
	}
}

func untouchedRows(t *testing.T, given, l []api.Row) {
	t.Helper()
	all, want := given[:len(l)+room], filledRows(l)[:len(l)+room]
	for i, r := range want {
		if !sameRow(all[i], r) || !slices.Equal(all[i].Cells[:len(r.Cells)+room], r.Cells[:len(r.Cells)+room]) {
			t.Errorf("R2: rows that were handed in were changed at %d: %v, want %v", i, all[i], r)
		}
	}
}

func untouchedCols(t *testing.T, given, cols []api.Col) {
	t.Helper()
	if !slices.Equal(given[:len(cols)+room], filledCols(cols)[:len(cols)+room]) {
		t.Errorf("R2: columns that were handed in were changed: %v", cols)
	}
}

func untouchedBytes(t *testing.T, b []byte, s string) {
	t.Helper()
	if !bytes.Equal(b[:len(s)+room], filledBytes(s)[:len(s)+room]) {
		t.Errorf("R2: what was handed in as %.40x was changed", s)
	}
}

var nameForm = regexp.MustCompile(`\A[a-z]{1,12}\z`)

// otherName is another reckoning of Name.
func otherName(s string) bool {
	return nameForm.MatchString(s)
}

// otherRight is another reckoning of Right: what is wrong is counted.
func otherRight(r api.Row) bool {
	wrong := 0
	count := func(bad bool) {
		if bad {
			wrong++
		}
	}
	count(r.Time > 1<<40)
	count(r.Time < -1<<40)
	count(r.Seq < 0)
	count(r.Seq > mostSeq)
	count(len(r.Cells) > 8)
	var names []string
	for _, c := range r.Cells {
		names = append(names, c.Col)
		count(!otherName(c.Col))
		count(c.Kind != 1 && c.Kind != 2)
		count(c.Kind == 1 && c.S != "")
		count(c.Kind == 2 && c.N != 0)
		count(len(c.S) > 40)
	}
	sorted := slices.Compact(slices.Sorted(slices.Values(names)))
	count(!slices.Equal(sorted, names))
	return wrong == 0
}

// otherCols is another reckoning of Cols.
func otherCols(l []api.Col) bool {
	byName := map[string]int{}
	for _, c := range l {
		if !otherName(c.Name) || c.Kind < 1 || c.Kind > 2 {
			return false
		}
		byName[c.Name] = c.Kind
	}
	return len(l) <= 12 && slices.Equal(l, inOrder(byName))
}

func inOrder(byName map[string]int) []api.Col {
	var out []api.Col
	for _, name := range slices.Sorted(maps.Keys(byName)) {
		out = append(out, api.Col{Name: name, Kind: byName[name]})
	}
	return out
}

// otherGrow is another reckoning of Grow: by a map.
func otherGrow(cols []api.Col, l []api.Row) ([]api.Col, api.Errno, int) {
	if !otherCols(cols) {
		return nil, api.ErrArg, 0
	}
	byName := map[string]int{}
	for _, c := range cols {
		byName[c.Name] = c.Kind
	}
	for i, r := range l {
		unlike := slices.ContainsFunc(r.Cells, func(c api.Cell) bool {
			kind, ok := byName[c.Col]
			return ok && kind != c.Kind
		})
		for _, c := range r.Cells {
			byName[c.Col] = c.Kind
		}
		switch {
		case !otherRight(r):
			return nil, api.ErrArg, i
		case unlike:
			return nil, api.ErrKind, i
		case len(byName) > 12:
			return nil, api.ErrMany, i
		}
	}
	return inOrder(byName), api.OK, 0
}

// otherSort is another reckoning of Sort: the library's.
func otherSort(l []api.Row) []api.Row {
	out := slices.Clone(l)
	slices.SortStableFunc(out, func(a, b api.Row) int {
		return cmp.Or(cmp.Compare(a.Time, b.Time), cmp.Compare(a.Seq, b.Seq))
	})
	return out
}

// head answers a number as it is written, by the library.
func head(n uint64) string {
	return string(binary.AppendUvarint(nil, n))
}

// zig answers a number of either sign as it is written, by the library.
func zig(n int64) string {
	return string(binary.AppendVarint(nil, n))
}

func writtenText(s string) string {
	return head(uint64(len(s))) + s
}

// written answers r as Encode writes it, whether it is Right or not.
func written(r api.Row) string {
	s := zig(r.Time) + head(uint64(r.Seq)) + head(uint64(len(r.Cells)))
	for _, c := range r.Cells {
		s += writtenText(c.Col) + head(uint64(c.Kind))
		if c.Kind == 2 {
			s += writtenText(c.S)
		} else {
			s += zig(c.N)
		}
	}
	return s
}

// reader is another reckoning of Decode: it keeps the first refusal, and reads nothing behind it.
type reader struct {
	rest string
	why  api.Errno
}

func (r *reader) refuse(bad bool, why api.Errno) {
	if bad && r.why == api.OK {
		r.why = why
	}
}

func (r *reader) number() uint64 {
	r.refuse(!strings.ContainsFunc(r.rest, func(c rune) bool { return c < 128 }), api.ErrEnd)
	// Uvarint takes more than one writing of a number.
	n, size := binary.Uvarint([]byte(r.rest))
	r.refuse(size <= 0 || head(n) != r.rest[:max(size, 0)], api.ErrForm)
	if r.why != api.OK {
		return 0
	}
	r.rest = r.rest[size:]
	return n
}

func (r *reader) signed() int64 {
	n, _ := binary.Varint(binary.AppendUvarint(nil, r.number()))
	return n
}

func (r *reader) text(most uint64) string {
	n := r.number()
	r.refuse(n > most, api.ErrLong)
	r.refuse(n > uint64(len(r.rest)), api.ErrEnd)
	if r.why != api.OK {
		return ""
	}
	s := r.rest[:n]
	r.rest = r.rest[n:]
	return s
}

func (r *reader) cell() api.Cell {
	col := r.text(12)
	kind := r.number()
	r.refuse(kind != 1 && kind != 2, api.ErrForm)
	if kind == 2 {
		return text(col, r.text(40))
	}
	return number(col, r.signed())
}

// otherDecode is another reckoning of Decode.
func otherDecode(s string, at int) (api.Row, int, api.Errno) {
	if at < 0 || at > len(s) {
		return api.Row{}, 0, api.ErrArg
	}
	r := &reader{rest: s[at:]}
	time, seq, cells := r.signed(), r.number(), r.number()
	r.refuse(seq > mostSeq || cells > 8, api.ErrForm)
	out := api.Row{Time: time, Seq: int(seq % (1 << 31))}
	for i := uint64(0); i < cells && r.why == api.OK; i++ {
		out.Cells = append(out.Cells, r.cell())
	}
	r.refuse(!otherRight(out), api.ErrForm)
	if r.why != api.OK {
		return api.Row{}, 0, r.why
	}
	return out, len(s) - len(r.rest), api.OK
}

// decoded fails unless Decode of s at at answers that.
func decoded(t *testing.T, name, s string, at int, want api.Row, wantEnd int, wantWhy api.Errno) {
	t.Helper()
	b := filledBytes(s)
	r, end, why := row.Decode(b, at)
	if !sameRow(r, want) || end != wantEnd || why != wantWhy {
		t.Errorf("P12.3: Decode(%.60x, %d), %s: %v, %d, %d, want %v, %d, %d", s, at, name, r, end, why, want, wantEnd, wantWhy)
	}
	untouchedBytes(t, b, s)
}

// refused fails unless Decode of s at at answers that refusal and nothing else.
func refused(t *testing.T, name, s string, at int, want api.Errno) {
	t.Helper()
	decoded(t, name, s, at, api.Row{}, 0, want)
}

// judged fails unless Right and Encode of r answer that, and Grow by r alone.
func judged(t *testing.T, name string, r api.Row, want bool) {
	t.Helper()
	given := filledRow(r)
	if got := row.Right(given); got != want {
		t.Errorf("P12.1: Right(%v), %s: %v", r, name, got)
	}
	b, why := row.Encode(given)
	if want && (string(b) != written(r) || why != api.OK) {
		t.Errorf("P12.3: Encode(%v), %s: %x, %d, want %x", r, name, b, why, written(r))
	}
	if !want && (len(b) != 0 || why != api.ErrForm) {
		t.Errorf("P12.3: Encode(%v), %s: %x, %d, want ErrForm", r, name, b, why)
	}
	cols, why, at := row.Grow(nil, []api.Row{given})
	if want != (why == api.OK) || !want && (len(cols) != 0 || why != api.ErrArg) || at != 0 {
		t.Errorf("P12.2: Grow by %v alone, %s: %v, %d, %d", r, name, cols, why, at)
	}
	untouchedRow(t, given, r)
}

// right fails unless r is Right, and is read as it was written.
func right(t *testing.T, name string, r api.Row) {
	t.Helper()
	judged(t, name, r, true)
	s := written(r)
	decoded(t, name, s, 0, r, len(s), api.OK)
	decoded(t, name+", behind others", "zz"+s, 2, r, len(s)+2, api.OK)
	decoded(t, name+", among others", "\x80"+s+"\x80\x00", 1, r, len(s)+1, api.OK)
}

// wrong fails unless r is not Right.
func wrong(t *testing.T, name string, r api.Row) {
	t.Helper()
	judged(t, name, r, false)
}

// wrongAsRead fails unless r is not Right, nor its bytes.
func wrongAsRead(t *testing.T, name string, r api.Row, why api.Errno) {
	t.Helper()
	wrong(t, name, r)
	refused(t, name, written(r), 0, why)
	refused(t, name+", behind others", "zz"+written(r)+"z", 2, why)
}

// judgedCols fails unless Cols of l answers that, and Grow of l.
func judgedCols(t *testing.T, name string, l []api.Col, want bool) {
	t.Helper()
	given := filledCols(l)
	if got := row.Cols(given); got != want {
		t.Errorf("P12.1: Cols(%v), %s: %v", l, name, got)
	}
	untouchedCols(t, given, l)
	wantCols, wantWhy := l, api.OK
	if !want {
		wantCols, wantWhy = nil, api.ErrArg
	}
	grown(t, name, l, nil, wantCols, wantWhy, 0)
	if !want {
		grown(t, name+", and rows", l, []api.Row{with(), with()}, nil, api.ErrArg, 0)
		grown(t, name+", and a wrong row behind", l, []api.Row{with(), of(0, -1)}, nil, api.ErrArg, 0)
	}
}

// grown fails unless Grow answers that.
func grown(t *testing.T, name string, cols []api.Col, l []api.Row, want []api.Col, wantWhy api.Errno, wantAt int) {
	t.Helper()
	givenCols, givenRows := filledCols(cols), filledRows(l)
	got, why, at := row.Grow(givenCols, givenRows)
	if !slices.Equal(got, want) || why != wantWhy || at != wantAt {
		t.Errorf("P12.2: Grow(%v, %v), %s: %v, %d, %d, want %v, %d, %d", cols, l, name, got, why, at, want, wantWhy, wantAt)
	}
	untouchedCols(t, givenCols, cols)
	untouchedRows(t, givenRows, l)
	if why == api.OK && !row.Cols(got) {
		t.Errorf("P12.2: Cols does not let by what Grow answers: %v", got)
	}
}

// ungrown fails unless Grow answers that refusal and its place alone.
func ungrown(t *testing.T, name string, cols []api.Col, l []api.Row, why api.Errno, at int) {
	t.Helper()
	grown(t, name, cols, l, nil, why, at)
}

// sorted fails unless Sort answers what the other reckoning does.
func sorted(t *testing.T, name string, l []api.Row) {
	t.Helper()
	given := filledRows(l)
	got := row.Sort(given)
	if !sameRows(got, otherSort(l)) {
		t.Errorf("P12.1: Sort of %d rows, %s: %.200s, want %.200s", len(l), name, fmt.Sprint(got), fmt.Sprint(otherSort(l)))
	}
	untouchedRows(t, given, l)
}

func TestTheChaptersRun(t *testing.T) {
	ungrown(t, "the chapter's", nil, []api.Row{with(number("x", 1)), with(text("x", "a"))}, api.ErrKind, 1)
	ungrown(t, "the chapter's, no columns", []api.Col{}, []api.Row{with(number("x", 1)), with(text("x", "a"))}, api.ErrKind, 1)
	if !row.Right(api.Row{}) || !row.Right(api.Row{Cells: []api.Cell{}}) {
		t.Error("P12.1: a row without cells is not Right")
	}
	if c := row.Cell(with(number("x", 1)), "y"); c != (api.Cell{}) {
		t.Errorf("P12.1: Cell of a name that is not there: %v", c)
	}
}

func TestName(t *testing.T) {
	for _, s := range []string{"a", "z", "m", "ab", "zz", "aaaaaaaaaaaa", "zzzzzzzzzzzz", "abcdefghijkl", "mnopqrstuvwx", "table", "null"} {
		if !row.Name(s) {
			t.Errorf("P12.1: Name(%q): false", s)
		}
	}
	for _, s := range []string{
		"", "A", "Z", "`", "{", "_", " ", "\x00", "\xff", "1", "a1", "1a", "a b", " a", "a ", "aB", "Ba", "a\n", "a\x00", "\x00a",
		"abcdefghijklm", "aaaaaaaaaaaaa", "ABCDEFGHIJKL", "é", "aé", "ａ", "а", "a\xe9", "\xc3", "abcdefghijk\xff", strings.Repeat("a", 24), strings.Repeat("a", 1000), strings.Repeat("a", 256+5),
	} {
		if row.Name(s) {
			t.Errorf("P12.1: Name(%q): true", s)
		}
	}
}

func TestEachByteOfAName(t *testing.T) {
	for size := range 16 {
		name := strings.Repeat("m", size)
		if row.Name(name) != (size >= 1 && size <= 12) {
			t.Errorf("P12.1: Name of %d letters", size)
		}
		for i := range size {
			for x := range 256 {
				b := []byte(name)
				b[i] = byte(x)
				if got, want := row.Name(string(b)), size <= 12 && x >= 'a' && x <= 'z'; got != want || got != otherName(string(b)) {
					t.Errorf("P12.1: Name(%q): %v", b, got)
				}
			}
		}
	}
}

func TestRightHeads(t *testing.T) {
	for _, time := range []int64{0, 1, -1, 300, 1 << 39, 1<<40 - 1, 1 << 40, -1 << 40, -1<<40 + 1, 1 << 31, 1 << 32} {
		for _, seq := range []int{0, 1, 300, mostSeq - 1, mostSeq} {
			right(t, "a right head", of(time, seq))
			right(t, "a right head, with cells", of(time, seq, number("a", time), text("b", "x")))
		}
		for _, seq := range []int{-1, -2, math.MinInt32, math.MinInt, math.MinInt + 1, mostSeq + 1, math.MaxInt32, 1 << 31, 1 << 32, 1<<32 + 1, math.MaxInt} {
			wrongAsRead(t, "a wrong Seq", of(time, seq), api.ErrForm)
			wrongAsRead(t, "a wrong Seq, with cells", of(time, seq, number("a", time)), api.ErrForm)
		}
	}
	for _, time := range []int64{1<<40 + 1, -1<<40 - 1, 1 << 41, -1 << 41, first, first + 1, last, last - 1, 1<<62 + 1<<40, -1<<62 - 1} {
		wrongAsRead(t, "a wrong Time", of(time, 1), api.ErrForm)
		wrongAsRead(t, "a wrong Time, with cells", of(time, 1, number("a", 5), text("b", "x")), api.ErrForm)
		wrongAsRead(t, "a wrong Time and a wrong Seq", of(time, -1), api.ErrForm)
	}
}

func TestRightCells(t *testing.T) {
	for size := range 14 {
		r := numbers(letters(size)...)
		if size <= 8 {
			right(t, "so many cells", r)
		} else {
			wrongAsRead(t, "so many cells", r, api.ErrForm)
		}
	}
	wrongAsRead(t, "nine cells that are none", api.Row{Cells: make([]api.Cell, 9)}, api.ErrForm)
	wrong(t, "256 cells", api.Row{Cells: make([]api.Cell, 256)})
	for _, n := range []int64{0, 1, -1, 63, 64, -64, -65, 1 << 40, 1<<40 + 1, first, first + 1, last, last - 1} {
		right(t, "an Int", with(number("n", n)))
		right(t, "an Int behind another", with(number("m", -5), number("n", n)))
		right(t, "an Int ahead of another", with(number("n", n), text("o", "x")))
		if n != 0 {
			wrong(t, "a Text with a number", with(api.Cell{Col: "n", Kind: api.Text, N: n}))
			wrong(t, "a Text with a number and a text", with(api.Cell{Col: "n", Kind: api.Text, N: n, S: "a"}))
		}
	}
	for _, s := range []string{"", "a", "\x00", "\xff", "\x80\x80", "é", "A b", strings.Repeat("x", 39), strings.Repeat("\xff", 40)} {
		right(t, "a Text", with(text("s", s)))
		right(t, "a Text behind another", with(number("m", -5), text("s", s)))
		right(t, "a Text ahead of another", with(text("s", s), text("t", "x")))
		if s != "" {
			wrong(t, "an Int with a text", with(api.Cell{Col: "n", Kind: api.Int, S: s}))
			wrong(t, "an Int with a number and a text", with(api.Cell{Col: "n", Kind: api.Int, N: 4, S: s}))
		}
	}
	for _, size := range []int{41, 42, 80, 256, 256 + 5, 1 << 16} {
		long := strings.Repeat("x", size)
		wrongAsRead(t, "a long Text", with(text("s", long)), api.ErrLong)
		wrongAsRead(t, "a long Text behind another", with(number("m", 1), text("s", long)), api.ErrLong)
		wrong(t, "an Int with a long text", with(api.Cell{Col: "n", Kind: api.Int, S: long}))
	}
}

func TestKindsOfCells(t *testing.T) {
	for _, kind := range []int{0, 3, 4, -1, -2, 255, 256, 257, 258, 1<<32 + 1, 1<<32 + 2, math.MinInt, math.MinInt + 1, math.MaxInt} {
		wrongAsRead(t, "a Kind that is none", with(api.Cell{Col: "a", Kind: kind}), api.ErrForm)
		wrongAsRead(t, "a Kind that is none, behind another", with(number("a", 1), api.Cell{Col: "b", Kind: kind}), api.ErrForm)
		wrongAsRead(t, "a Kind that is none, ahead of another", with(api.Cell{Col: "a", Kind: kind}, number("b", 1)), api.ErrForm)
		wrong(t, "a Kind that is none, with a number", with(api.Cell{Col: "a", Kind: kind, N: 1}))
		wrong(t, "a Kind that is none, with a text", with(api.Cell{Col: "a", Kind: kind, S: "x"}))
	}
	wrong(t, "a null", with(api.Cell{}))
}

func TestNamesOfCells(t *testing.T) {
	for _, s := range []string{"a", "z", "abcdefghijkl", "zzzzzzzzzzzz"} {
		right(t, "a name", with(number(s, 1)))
		right(t, "a name of a Text", with(text(s, "x")))
	}
	for _, s := range []string{"", "A", "`", "{", "a1", "a\x00", "\xff", "é", "abcdefghijkZ", "aB"} {
		wrongAsRead(t, "no name", with(number(s, 1)), api.ErrForm)
		wrongAsRead(t, "no name, a Text", with(text(s, "x")), api.ErrForm)
		wrong(t, "no name, behind another", with(number("a", 1), number(s, 1)))
		wrong(t, "no name, ahead of another", with(number(s, 1), number("zz", 1)))
	}
	for _, s := range []string{"abcdefghijklm", strings.Repeat("a", 24), strings.Repeat("z", 300), strings.Repeat("A", 13)} {
		wrongAsRead(t, "a long name", with(number(s, 1)), api.ErrLong)
		wrongAsRead(t, "a long name behind another", with(number("a", 1), text(s, "x")), api.ErrLong)
	}
	for _, l := range [][]string{
		{"a", "b"}, {"a", "aa"}, {"a", "z"}, {"aa", "ab", "b"}, {"aaaaaaaaaaaa", "b"}, {"a", "aaaaaaaaaaaa"}, {"az", "b", "ba"}, {"x", "xx", "xxx", "y"},
	} {
		right(t, "names that rise", numbers(l...))
	}
	for _, l := range [][]string{
		{"a", "a"}, {"b", "a"}, {"aa", "a"}, {"b", "aaaaaaaaaaaa"}, {"a", "b", "b"}, {"a", "a", "b"}, {"a", "c", "b"}, {"b", "a", "c"}, {"a", "b", "a"}, {"c", "b", "a"},
		{"a", "b", "c", "d", "e", "f", "g", "g"}, {"a", "b", "c", "d", "e", "f", "h", "g"}, {"b", "a", "c", "d", "e", "f", "g", "h"},
	} {
		wrongAsRead(t, "names that don't rise", numbers(l...), api.ErrForm)
	}
	wrongAsRead(t, "a name twice, of unlike Kinds", with(number("a", 1), text("a", "x")), api.ErrForm)
}

func TestRowsOfTwoCells(t *testing.T) {
	var cells []api.Cell
	for _, s := range []string{"", "a", "b", "B", "abcdefghijklm"} {
		for kind := -1; kind <= 3; kind++ {
			for n := range int64(2) {
				cells = append(cells, api.Cell{Col: s, Kind: kind, N: n}, api.Cell{Col: s, Kind: kind, N: n, S: "x"})
			}
		}
	}
	for _, a := range cells {
		judged(t, "any one", with(a), otherRight(with(a)))
		for _, b := range cells {
			judged(t, "any two", with(a, b), otherRight(with(a, b)))
			holdBytes(t, written(with(a, b)), 0)
		}
	}
}

func TestCell(t *testing.T) {
	odd := api.Cell{Col: "Odd", Kind: 7, N: 3, S: "x"}
	noName := api.Cell{Kind: api.Int, N: 4}
	null := api.Cell{Col: "null"}
	r := of(1, 1, number("b", 5), text("a", "first"), number("a", 6), odd, noName, null, text("b", "second"), text("\xff\x00", "bytes"))
	for _, c := range []struct {
		col  string
		want api.Cell
	}{
		{"b", number("b", 5)}, {"a", text("a", "first")}, {"Odd", odd}, {"", noName}, {"null", null}, {"\xff\x00", text("\xff\x00", "bytes")},
		{"c", api.Cell{}}, {"odd", api.Cell{}}, {"aa", api.Cell{}}, {"\xff", api.Cell{}}, {"\ufffd\x00", api.Cell{}}, {"zz", api.Cell{}}, {"spare", api.Cell{}}, {strings.Repeat("x", 1000), api.Cell{}},
	} {
		given := filledRow(r)
		if got := row.Cell(given, c.col); got != c.want {
			t.Errorf("P12.1: Cell(%q): %v, want %v", c.col, got, c.want)
		}
		untouchedRow(t, given, r)
	}
	eight := numbers(letters(8)...)
	for i, s := range letters(10) {
		want := api.Cell{}
		if i < 8 {
			want = number(s, int64(i))
		}
		if got := row.Cell(filledRow(eight), s); got != want {
			t.Errorf("P12.1: Cell(%q) of eight: %v, want %v", s, got, want)
		}
	}
	for _, none := range []api.Row{{}, {Cells: []api.Cell{}}, of(first, math.MinInt)} {
		for _, s := range []string{"", "a", "A"} {
			if got := row.Cell(none, s); got != (api.Cell{}) {
				t.Errorf("R4: Cell(%q) of no cells: %v", s, got)
			}
		}
	}
}

func TestLess(t *testing.T) {
	times := []int64{first, first + 1, -1 << 40, -1, 0, 1, 1 << 40, last - 1, last}
	seqs := []int{math.MinInt, -1, 0, 1, 2, mostSeq, math.MaxInt}
	for i, time := range times {
		for j, seq := range seqs {
			for k, time2 := range times {
				for m, seq2 := range seqs {
					a, b := of(time, seq, number("a", 9)), of(time2, seq2, number("a", 1), text("b", "x"))
					if got, want := row.Less(a, b), i < k || i == k && j < m; got != want {
						t.Errorf("P12.1: Less(%d:%d, %d:%d): %v", time, seq, time2, seq2, got)
					}
				}
			}
		}
	}
	for _, cells := range [][]api.Cell{nil, {}, {number("a", 1)}, {number("Z", 1), number("Z", 1)}} {
		if row.Less(of(1, 1), of(1, 1, cells...)) || row.Less(of(1, 1, cells...), of(1, 1)) {
			t.Errorf("P12.1: Less of rows that differ by cells alone: %v", cells)
		}
	}
}

// tagged answers a row that is told from others of its time and number by a cell.
func tagged(time int64, seq, tag int) api.Row {
	return of(time, seq, number("tag", int64(tag)))
}

func TestSort(t *testing.T) {
	l := []api.Row{tagged(5, 1, 0), tagged(3, 9, 1), tagged(3, 2, 2), tagged(3, 9, 3), tagged(-4, 7, 4)}
	want := []api.Row{tagged(-4, 7, 4), tagged(3, 2, 2), tagged(3, 9, 1), tagged(3, 9, 3), tagged(5, 1, 0)}
	if got := row.Sort(l); !sameRows(got, want) {
		t.Errorf("P12.1: Sort: %v, want %v", got, want)
	}
	for _, none := range [][]api.Row{nil, {}} {
		if got := row.Sort(none); len(got) != 0 {
			t.Errorf("R4: Sort of no rows: %v", got)
		}
	}
	sorted(t, "one", []api.Row{tagged(1, 1, 0)})
	sorted(t, "rows without cells", []api.Row{of(2, 0), of(1, 5), of(1, 4), {}})
	sorted(t, "rows that are not Right", []api.Row{
		of(last, -1, number("b", 1), number("a", 1)), of(first, math.MaxInt, api.Cell{Kind: 9, S: "x"}), of(last, math.MinInt), of(0, -1), of(first, math.MinInt, make([]api.Cell, 20)...), of(0, 0),
	})
}

func TestSortOfSmallLists(t *testing.T) {
	var each func(l []api.Row, left int)
	each = func(l []api.Row, left int) {
		sorted(t, "small", l)
		if left == 0 {
			return
		}
		for x := range 4 {
			each(append(slices.Clone(l), tagged(int64(x/2), x%2, len(l))), left-1)
		}
	}
	each(nil, 6)
}

func TestSortOfEachLength(t *testing.T) {
	r := rand.New(rand.NewSource(1))
	for size := range 140 {
		var rising, falling, equal, bySeq, any []api.Row
		for i := range size {
			rising = append(rising, tagged(int64(i), 0, i))
			falling = append(falling, tagged(int64(-i), 0, i))
			equal = append(equal, tagged(4, 4, i))
			bySeq = append(bySeq, tagged(4, (i*7)%5, i))
			any = append(any, tagged(int64(r.Intn(6)), r.Intn(3), i))
		}
		for _, l := range [][]api.Row{rising, falling, equal, bySeq, any} {
			sorted(t, "each length", l)
		}
	}
	var long []api.Row
	for i := range 100000 {
		long = append(long, tagged(int64(r.Intn(300)), r.Intn(30), i))
	}
	if got := row.Sort(long); !sameRows(got, otherSort(long)) {
		t.Error("P12.1: Sort of 100000 rows")
	}
}

func TestCols(t *testing.T) {
	for size := range 16 {
		judgedCols(t, "so many", columns(api.Int, letters(size)...), size <= 12)
		judgedCols(t, "so many Texts", columns(api.Text, letters(size)...), size <= 12)
	}
	judgedCols(t, "an empty list", []api.Col{}, true)
	judgedCols(t, "both Kinds", []api.Col{{Name: "a", Kind: api.Text}, {Name: "b", Kind: api.Int}, {Name: "c", Kind: api.Text}}, true)
	for _, kind := range []int{0, 3, -1, 257, 258, 1<<32 + 1, 1<<32 + 2, math.MinInt + 1, math.MinInt, math.MaxInt} {
		judgedCols(t, "a Kind that is none", columns(kind, "a"), false)
		judgedCols(t, "a Kind that is none, ahead", append(columns(kind, "a"), columns(1, "b")...), false)
		judgedCols(t, "a Kind that is none, behind", append(columns(1, "a"), columns(kind, "b")...), false)
	}
	for _, s := range []string{"a", "z", "abcdefghijkl"} {
		judgedCols(t, "a name", columns(api.Text, s), true)
	}
	for _, s := range []string{"", "A", "`", "{", "a1", "\xff", "é", "abcdefghijklm", strings.Repeat("a", 100)} {
		judgedCols(t, "no name", columns(api.Int, s), false)
		judgedCols(t, "no name, ahead", columns(api.Int, s, "zz"), false)
		judgedCols(t, "no name, behind", columns(api.Int, "a", s), false)
	}
	for _, l := range [][]string{{"a", "b"}, {"a", "aa"}, {"aa", "b"}, {"a", "aaaaaaaaaaaa", "ab"}} {
		judgedCols(t, "names that rise", columns(api.Int, l...), true)
	}
	for _, l := range [][]string{{"a", "a"}, {"b", "a"}, {"aa", "a"}, {"a", "b", "b"}, {"a", "a", "b"}, {"a", "c", "b"}, {"b", "a", "c"}, {"a", "b", "a"}} {
		judgedCols(t, "names that don't rise", columns(api.Int, l...), false)
	}
	judgedCols(t, "a name twice, of unlike Kinds", []api.Col{{Name: "a", Kind: 1}, {Name: "a", Kind: 2}}, false)
	twelve := columns(api.Int, letters(12)...)
	twelve[11].Name = "k"
	judgedCols(t, "twelve, the last two equal", twelve, false)
}

func TestGrow(t *testing.T) {
	one := []api.Row{with(number("m", 1))}
	grown(t, "nothing", nil, nil, nil, api.OK, 0)
	grown(t, "empty lists", []api.Col{}, []api.Row{}, nil, api.OK, 0)
	grown(t, "a row without cells", nil, []api.Row{with()}, nil, api.OK, 0)
	grown(t, "columns alone", columns(api.Text, "a", "b"), nil, columns(api.Text, "a", "b"), api.OK, 0)
	grown(t, "columns, rows without cells", columns(api.Text, "a", "b"), []api.Row{with(), with()}, columns(api.Text, "a", "b"), api.OK, 0)
	grown(t, "a row alone", nil, one, columns(api.Int, "m"), api.OK, 0)
	grown(t, "a column that is there", columns(api.Int, "m"), one, columns(api.Int, "m"), api.OK, 0)
	grown(t, "one ahead", columns(api.Int, "n"), one, columns(api.Int, "m", "n"), api.OK, 0)
	grown(t, "one behind", columns(api.Int, "l"), one, columns(api.Int, "l", "m"), api.OK, 0)
	grown(t, "one between", columns(api.Int, "l", "n"), one, columns(api.Int, "l", "m", "n"), api.OK, 0)
	grown(t, "a longer one", columns(api.Int, "l", "mm"), one, columns(api.Int, "l", "m", "mm"), api.OK, 0)
	grown(t, "both Kinds", []api.Col{{Name: "b", Kind: api.Text}}, []api.Row{with(number("a", 1), text("b", ""), text("c", "x")), with(number("d", 0)), with(text("b", "y"), text("bb", "y"))},
		[]api.Col{{Name: "a", Kind: 1}, {Name: "b", Kind: 2}, {Name: "bb", Kind: 2}, {Name: "c", Kind: 2}, {Name: "d", Kind: 1}}, api.OK, 0)
	grown(t, "the same row again", nil, []api.Row{numbers("a", "b"), numbers("a", "b"), numbers("a", "b")}, columns(api.Int, "a", "b"), api.OK, 0)
	grown(t, "rows that fall, and rows alike", nil, []api.Row{of(9, 9, number("c", 1)), of(1, 1, number("b", 1)), of(1, 1, number("a", 1))}, columns(api.Int, "a", "b", "c"), api.OK, 0)
}

func TestGrowsKinds(t *testing.T) {
	n, s := with(number("x", 1)), with(text("x", "a"))
	other := with(number("a", 1), text("z", "x"))
	for _, c := range []struct {
		name string
		cols []api.Col
		l    []api.Row
		at   int
	}{
		{"an Int, then a Text", nil, []api.Row{n, s}, 1},
		{"a Text, then an Int", nil, []api.Row{s, n}, 1},
		{"others between", nil, []api.Row{with(), n, n, other, s}, 4},
		{"the first of two that are unlike", nil, []api.Row{n, s, s}, 1},
		{"unlike, then like", nil, []api.Row{n, s, n}, 1},
		{"a column of Int", columns(api.Int, "x"), []api.Row{s}, 0},
		{"a column of Text", columns(api.Text, "x"), []api.Row{n}, 0},
		{"a column of Text, behind rows", columns(api.Text, "x"), []api.Row{s, other, n}, 2},
		{"a column among others", columns(api.Text, "w", "x", "y"), []api.Row{other, n}, 1},
		{"the first cell", columns(api.Text, "a"), []api.Row{numbers("a", "b", "c")}, 0},
		{"the last cell", columns(api.Text, "c"), []api.Row{numbers("a", "b", "c")}, 0},
		{"the last of eight", columns(api.Text, "h"), []api.Row{numbers(letters(8)...)}, 0},
		{"an Int 0 and an empty Text", nil, []api.Row{with(number("x", 0)), with(text("x", ""))}, 1},
	} {
		ungrown(t, c.name, c.cols, c.l, api.ErrKind, c.at)
	}
}

func TestGrowsRoom(t *testing.T) {
	names := letters(26)
	for size := range 13 {
		for more := range 9 {
			l := []api.Row{with(), numbers(names[13 : 13+more]...), with()}
			if size+more <= 12 {
				grown(t, "by one row", columns(1, names[:size]...), l, columns(1, append(slices.Clone(names[:size]), names[13:13+more]...)...), api.OK, 0)
			} else {
				ungrown(t, "by one row", columns(1, names[:size]...), l, api.ErrMany, 1)
			}
			l = l[:1]
			for _, s := range names[13 : 13+more] {
				l = append(l, numbers(s))
			}
			if size+more <= 12 {
				grown(t, "by several rows", columns(1, names[:size]...), l, columns(1, append(slices.Clone(names[:size]), names[13:13+more]...)...), api.OK, 0)
			} else {
				ungrown(t, "by several rows", columns(1, names[:size]...), l, api.ErrMany, 1+12-size)
			}
		}
	}
	grown(t, "twelve by rows alone", nil, []api.Row{numbers(names[4:12]...), numbers(names[:8]...)}, columns(1, names[:12]...), api.OK, 0)
	ungrown(t, "thirteen by rows alone", nil, []api.Row{numbers(names[5:13]...), numbers(names[:8]...)}, api.ErrMany, 1)
	ungrown(t, "sixteen by rows alone", nil, []api.Row{numbers(names[8:16]...), numbers(names[:8]...)}, api.ErrMany, 1)
	grown(t, "twelve, asked again", columns(1, names[:12]...), []api.Row{numbers(names[4:12]...), numbers(names[:8]...)}, columns(1, names[:12]...), api.OK, 0)
	ungrown(t, "twelve, and one ahead of all", columns(1, names[1:13]...), []api.Row{numbers("b"), numbers("a")}, api.ErrMany, 1)
	ungrown(t, "twelve, and one between", columns(1, names[:12]...), []api.Row{numbers("a", "aa", "b")}, api.ErrMany, 0)
	ungrown(t, "thirteen columns", columns(1, names[:13]...), []api.Row{numbers("z")}, api.ErrArg, 0)
}

func TestTheOrderOfGrowsRefusals(t *testing.T) {
	twelve := columns(api.Int, letters(12)...)
	right, bad := with(number("a", 1)), of(0, -1)
	kind, many := with(text("a", "x")), with(number("m", 1))
	for _, c := range []struct {
		name string
		cols []api.Col
		l    []api.Row
		why  api.Errno
		at   int
	}{
		{"a wrong row", twelve, []api.Row{right, bad}, api.ErrArg, 1},
		{"another Kind", twelve, []api.Row{right, kind}, api.ErrKind, 1},
		{"no room", twelve, []api.Row{right, many}, api.ErrMany, 1},
		{"wrong columns, a wrong row behind", columns(3, "a"), []api.Row{right, bad}, api.ErrArg, 0},
		{"wrong columns, another Kind behind", columns(1, "b", "a"), []api.Row{right, kind}, api.ErrArg, 0},
		{"wrong columns, no room behind", columns(1, letters(13)...), []api.Row{right, with(number("z", 1))}, api.ErrArg, 0},
		{"wrong, then another Kind", twelve, []api.Row{right, bad, kind}, api.ErrArg, 1},
		{"wrong, then no room", twelve, []api.Row{right, bad, many}, api.ErrArg, 1},
		{"another Kind, then wrong", twelve, []api.Row{right, kind, bad}, api.ErrKind, 1},
		{"another Kind, then no room", twelve, []api.Row{right, kind, many}, api.ErrKind, 1},
		{"no room, then wrong", twelve, []api.Row{right, many, bad}, api.ErrMany, 1},
		{"no room, then another Kind", twelve, []api.Row{right, many, kind}, api.ErrMany, 1},
		{"two wrong ones", twelve, []api.Row{right, bad, bad}, api.ErrArg, 1},
		{"wrong and another Kind in one", twelve, []api.Row{right, of(0, -1, text("a", "x"))}, api.ErrArg, 1},
		{"wrong and no room in one", twelve, []api.Row{right, of(0, -1, number("m", 1))}, api.ErrArg, 1},
		{"another Kind, then a wrong cell, in one", twelve, []api.Row{with(text("a", "x"), number("B", 1))}, api.ErrArg, 0},
		{"no room, then a wrong cell, in one", twelve, []api.Row{with(number("m", 1), number("a", 1))}, api.ErrArg, 0},
		{"another Kind, then no room, in one", twelve, []api.Row{right, with(text("a", "x"), number("m", 1))}, api.ErrKind, 1},
		{"no room, then another Kind, in one", columns(1, letters(13)[1:]...), []api.Row{with(number("a", 1), text("c", "x"))}, api.ErrKind, 0},
		{"no room by far, then another Kind, in one", columns(1, letters(26)[14:]...), []api.Row{with(append(numbers(letters(7)...).Cells, text("z", "x"))...)}, api.ErrKind, 0},
		{"all three in one", twelve, []api.Row{of(0, -1, text("a", "x"), number("m", 1))}, api.ErrArg, 0},
		{"a name twice in one row, of unlike Kinds", nil, []api.Row{right, with(number("b", 1), text("b", "x"))}, api.ErrArg, 1},
		{"a wrong row makes no column", nil, []api.Row{with(number("b", 1), number("a", 1)), with(text("b", "x"))}, api.ErrArg, 0},
	} {
		ungrown(t, c.name, c.cols, c.l, c.why, c.at)
	}
}

func TestEncode(t *testing.T) {
	for _, c := range []struct {
		r    api.Row
		want string
	}{
		{api.Row{}, "\x00\x00\x00"},
		{of(-1, 300, number("x", -2), text("y", "ab")), "\x01\xac\x02\x02\x01x\x01\x03\x01y\x02\x02ab"},
		{of(1, 1, text("abcdefghijkl", "")), "\x02\x01\x01\x0cabcdefghijkl\x02\x00"},
		{of(1<<40, 1<<30), "\x80\x80\x80\x80\x80\x40\x80\x80\x80\x80\x04\x00"},
		{of(-1<<40, 0), "\xff\xff\xff\xff\xff\x3f\x00\x00"},
		{of(0, 0, number("n", first)), "\x00\x00\x01\x01n\x01\xff\xff\xff\xff\xff\xff\xff\xff\xff\x01"},
		{of(0, 0, number("n", last)), "\x00\x00\x01\x01n\x01\xfe\xff\xff\xff\xff\xff\xff\xff\xff\x01"},
		{of(0, 0, number("n", 64)), "\x00\x00\x01\x01n\x01\x80\x01"},
		{of(0, 0, text("s", "\x00\xff\x80")), "\x00\x00\x01\x01s\x02\x03\x00\xff\x80"},
		{of(0, 0, text("s", strings.Repeat("q", 40))), "\x00\x00\x01\x01s\x02\x28" + strings.Repeat("q", 40)},
		{numbers(letters(8)...), "\x0e\x03\x08\x01a\x01\x00\x01b\x01\x02\x01c\x01\x04\x01d\x01\x06\x01e\x01\x08\x01f\x01\x0a\x01g\x01\x0c\x01h\x01\x0e"},
	} {
		if b, why := row.Encode(c.r); string(b) != c.want || why != api.OK {
			t.Errorf("P12.3: Encode(%v): %x, %d, want %x", c.r, b, why, c.want)
		}
		right(t, "by hand", c.r)
	}
}

func TestRowsBehindOneAnother(t *testing.T) {
	l := []api.Row{{}, of(-1, 300, number("x", -2), text("y", "ab")), of(4, 4), numbers(letters(8)...), of(1<<40, mostSeq, text("s", ""))}
	var b []byte
	for _, r := range l {
		one, why := row.Encode(r)
		if why != api.OK {
			t.Fatalf("P12.3: Encode(%v): %d", r, why)
		}
		b = append(b, one...)
	}
	at := 0
	for _, want := range l {
		r, end, why := row.Decode(b, at)
		if !sameRow(r, want) || why != api.OK {
			t.Fatalf("P12.3: Decode at %d: %v, %d, want %v", at, r, why, want)
		}
		at = end
	}
	if at != len(b) {
		t.Errorf("P12.3: rows end at %d, want %d", at, len(b))
	}
	refused(t, "the end of rows", string(b), at, api.ErrEnd)
}

func TestDecodesRefusals(t *testing.T) {
	eleven := strings.Repeat("\x80", 10) + "\x01"
	great := strings.Repeat("\xff", 9) + "\x02"
	cut := strings.Repeat("\x80", 30)
	// Each part of a row in turn, behind parts that are right.
	for name, ahead := range map[string]string{
		"Time": "", "Seq": "\x00", "how many cells": "\x00\x00", "a name's length": "\x00\x00\x01", "a Kind": "\x00\x00\x01\x01a", "a number": "\x00\x00\x01\x01a\x01", "a text's length": "\x00\x00\x01\x01a\x02",
		"the second name's length": "\x00\x00\x02\x01a\x01\x00", "the second Kind": "\x00\x00\x02\x01a\x01\x00\x01b", "the second number": "\x00\x00\x02\x01a\x01\x00\x01b\x01",
	} {
		refused(t, name+" lacks", ahead, 0, api.ErrEnd)
		refused(t, name+" cut off", ahead+"\x81", 0, api.ErrEnd)
		refused(t, name+" cut off, too long", ahead+cut, 0, api.ErrEnd)
		refused(t, name+" in a longer writing", ahead+"\x81\x00", 0, api.ErrForm)
		refused(t, name+" in a longer writing, others behind", ahead+"\x80\x00"+"\x00\x00\x00", 0, api.ErrForm)
		refused(t, name+" of more than 64 bits", ahead+great+"\x00\x00\x00", 0, api.ErrForm)
		refused(t, name+" of eleven bytes", ahead+eleven+"\x00\x00\x00", 0, api.ErrForm)
	}
	for _, n := range []uint64{mostSeq + 1, 1 << 31, 1 << 32, 1<<32 + 5, math.MaxInt64, 1 << 63, 1<<63 + 5, math.MaxUint64} {
		refused(t, "a Seq that is not so", "\x00"+head(n)+"\x00", 0, api.ErrForm)
		refused(t, "a Seq that is not so, with a cell", "\x00"+head(n)+"\x01\x01a\x01\x00", 0, api.ErrForm)
	}
	for _, n := range []uint64{9, 10, 127, 128, 1 << 31, 1 << 32, 1<<32 + 1, math.MaxInt64, 1 << 63, 1<<63 + 1, math.MaxUint64} {
		refused(t, "too many cells", "\x00\x00"+head(n), 0, api.ErrForm)
		refused(t, "too many cells, one there", "\x00\x00"+head(n)+"\x01a\x01\x00", 0, api.ErrForm)
	}
	for _, n := range []uint64{0, 3, 127, 128, 255, 256, 257, 258, 1 << 32, 1<<32 + 1, 1<<32 + 2, math.MaxInt64, 1 << 63, 1<<63 + 1, 1<<63 + 2, math.MaxUint64} {
		refused(t, "a Kind that is none", "\x00\x00\x01\x01a"+head(n), 0, api.ErrForm)
		refused(t, "a Kind that is none, a value behind", "\x00\x00\x01\x01a"+head(n)+"\x00", 0, api.ErrForm)
		refused(t, "a second Kind that is none", "\x00\x00\x02\x01a\x01\x00\x01b"+head(n), 0, api.ErrForm)
	}
	for _, n := range []uint64{13, 14, 41, 128, 1 << 32, 1<<32 + 1, math.MaxInt64, 1 << 63, 1<<63 + 1, math.MaxUint64} {
		refused(t, "a name that is too long", "\x00\x00\x01"+head(n)+strings.Repeat("a", 60), 0, api.ErrLong)
		refused(t, "a name that is too long and lacks", "\x00\x00\x01"+head(n), 0, api.ErrLong)
		refused(t, "a second name that is too long", "\x00\x00\x02\x01a\x01\x00"+head(n), 0, api.ErrLong)
		if n > 40 {
			refused(t, "a text that is too long", "\x00\x00\x01\x01a\x02"+head(n)+strings.Repeat("a", 60), 0, api.ErrLong)
			refused(t, "a text that is too long and lacks", "\x00\x00\x01\x01a\x02"+head(n), 0, api.ErrLong)
		}
	}
	refused(t, "a name that lacks", "\x00\x00\x01\x0cabcdefghijk", 0, api.ErrEnd)
	refused(t, "a text that lacks", "\x00\x00\x01\x01a\x02\x28"+strings.Repeat("a", 39), 0, api.ErrEnd)
	refused(t, "a cell that lacks", "\x00\x00\x02\x01a\x01\x00", 0, api.ErrEnd)
	refused(t, "eight cells that lack", "\x00\x00\x08", 0, api.ErrEnd)
}

func TestTheOrderOfDecodesRefusals(t *testing.T) {
	seq, late := head(mostSeq+1), zig(1<<40+1)
	for _, c := range []struct {
		name, s string
		at      int
		want    api.Errno
	}{
		{"a place that is none, and no bytes", "", 1, api.ErrArg},
		{"a place that is none, and a wrong form", "\x80\x00", -1, api.ErrArg},
		{"a place that is none, and a long name", "\x00\x00\x01\x0d", 5, api.ErrArg},
		{"Seq is not so, no number of cells", "\x00" + seq, 0, api.ErrEnd},
		{"Seq is not so, the number of cells cut off", "\x00" + seq + "\x80", 0, api.ErrEnd},
		{"Seq is not so, the number of cells of a wrong form", "\x00" + seq + "\x80\x00", 0, api.ErrForm},
		{"Seq is not so, no cell", "\x00" + seq + "\x01", 0, api.ErrForm},
		{"Seq is not so, a long name", "\x00" + seq + "\x01\x0d", 0, api.ErrForm},
		{"Seq is not so, and too many cells", "\x00" + seq + "\x09", 0, api.ErrForm},
		{"too many cells, none there", "\x00\x00\x09", 0, api.ErrForm},
		{"too many cells, a long name", "\x00\x00\x09\x0d", 0, api.ErrForm},
		{"a late Time, no Seq", late, 0, api.ErrEnd},
		{"a late Time, no cell", late + "\x00\x01", 0, api.ErrEnd},
		{"a late Time, a long name", late + "\x00\x01\x0d", 0, api.ErrLong},
		{"a late Time, a long text", late + "\x00\x01\x01a\x02\x29", 0, api.ErrLong},
		{"a late Time, a number cut off", late + "\x00\x01\x01a\x01\x80", 0, api.ErrEnd},
		{"a late Time", late + "\x00\x01\x01a\x01\x00", 0, api.ErrForm},
		{"an empty name, no Kind", "\x00\x00\x01\x00", 0, api.ErrEnd},
		{"an empty name, no number", "\x00\x00\x01\x00\x01", 0, api.ErrEnd},
		{"an empty name, a long text", "\x00\x00\x01\x00\x02\x29", 0, api.ErrLong},
		{"an empty name", "\x00\x00\x01\x00\x01\x00", 0, api.ErrForm},
		{"no name, no Kind", "\x00\x00\x01\x01A", 0, api.ErrEnd},
		{"no name, a long text", "\x00\x00\x01\x01A\x02\x29", 0, api.ErrLong},
		{"no name, then a long one", "\x00\x00\x02\x01A\x01\x00\x0d", 0, api.ErrLong},
		{"no name, then nothing", "\x00\x00\x02\x01A\x01\x00", 0, api.ErrEnd},
		{"a Kind that is none, no value", "\x00\x00\x01\x01a\x03", 0, api.ErrForm},
		{"a Kind that is none, then a long name", "\x00\x00\x02\x01a\x03\x00\x0d", 0, api.ErrForm},
		{"a Kind that is none, no second cell", "\x00\x00\x02\x01a\x00\x00", 0, api.ErrForm},
		{"a long name, then a Kind that is none", "\x00\x00\x01\x0dabcdefghijklm\x03", 0, api.ErrLong},
		{"a long name that lacks", "\x00\x00\x01\x0d", 0, api.ErrLong},
		{"a name twice, the second without Kind", "\x00\x00\x02\x01a\x01\x00\x01a", 0, api.ErrEnd},
		{"a name twice, then a long text", "\x00\x00\x02\x01a\x01\x00\x01a\x02\x29", 0, api.ErrLong},
		{"a name twice", "\x00\x00\x02\x01a\x01\x00\x01a\x01\x00", 0, api.ErrForm},
		{"names that fall, a third lacks", "\x00\x00\x03\x01b\x01\x00\x01a\x01\x00", 0, api.ErrEnd},
		{"names that fall", "\x00\x00\x02\x01b\x01\x00\x01a\x01\x00", 0, api.ErrForm},
	} {
		refused(t, c.name, c.s, c.at, c.want)
	}
}

func TestDecodesPlaces(t *testing.T) {
	r := of(-1, 300, number("x", -2), text("y", "ab"))
	s := written(r)
	for _, at := range []int{math.MinInt, -2, -1, len(s) + 1, len(s) + room, len(s) + room + 1, math.MaxInt} {
		refused(t, "a place that is none", s, at, api.ErrArg)
	}
	refused(t, "the end", s, len(s), api.ErrEnd)
	decoded(t, "a row without cells at the end", "zz\x00\x00\x00", 2, api.Row{}, 5, api.OK)
	decoded(t, "a row without cells ahead of others", "\x00\x00\x00\x80", 0, api.Row{}, 3, api.OK)
	for at := range len(s) {
		holdBytes(t, s, at)
	}
	for _, b := range [][]byte{nil, {}} {
		for at, want := range map[int]api.Errno{0: api.ErrEnd, 1: api.ErrArg, -1: api.ErrArg} {
			if r, end, why := row.Decode(b, at); !sameRow(r, api.Row{}) || end != 0 || why != want {
				t.Errorf("R5: Decode of no bytes at %d: %v, %d, %d, want %d", at, r, end, why, want)
			}
		}
	}
}

// manyRows answers rows of every kind that are Right.
func manyRows() []api.Row {
	return []api.Row{
		{}, of(-1, 300, number("x", -2), text("y", "ab")), of(1<<40, mostSeq), of(-1<<40, 0, text("a", "")),
		numbers(letters(8)...), with(number("n", first), number("o", last)), with(text("abcdefghijkl", strings.Repeat("\xff", 40)), text("b", "\x80\x00")),
	}
}

func TestACutIsTold(t *testing.T) {
	for _, r := range manyRows() {
		right(t, "to be cut", r)
		s := written(r)
		for n := range len(s) {
			refused(t, "a cut", s[:n], 0, api.ErrEnd)
			refused(t, "a cut behind others", "\x80"+s[:n], 1, api.ErrEnd)
		}
	}
}

// holdBytes fails unless Decode of s answers what the other reckoning does, and Encode answers what was read.
func holdBytes(t *testing.T, s string, at int) {
	t.Helper()
	want, wantEnd, why := otherDecode(s, at)
	decoded(t, "any bytes", s, at, want, wantEnd, why)
	if why != api.OK {
		return
	}
	if b, why := row.Encode(want); string(b) != s[at:wantEnd] || why != api.OK {
		t.Errorf("P12.3: Encode of what was read of %x at %d: %x, %d", s, at, b, why)
	}
}

func TestEachByteTurned(t *testing.T) {
	for _, r := range manyRows() {
		s := written(r)
		for i := range s {
			for x := range 256 {
				b := []byte(s)
				b[i] = byte(x)
				holdBytes(t, string(b), 0)
				holdBytes(t, string(b)+"\x00\x00", 0)
			}
		}
	}
}

func TestBytesOfEveryKind(t *testing.T) {
	r := rand.New(rand.NewSource(2))
	pieces := []string{"\x00", "\x00", "\x01", "\x01", "\x02", "\x02", "\x03", "\x08", "\x09", "\x0c", "\x0d", "\x28", "\x29", "\x01a", "\x01a\x01", "\x01b\x02", "\x01b\x02\x01x", "\x01c\x01\x05", "\x02cc\x02", "a", "A", "\x7f", "\x80", "\xff", "\x80\x00", "\x80\x01", zig(1 << 40), zig(1<<40 + 1), head(mostSeq), head(mostSeq + 1), head(1<<32 + 1), head(1<<63 + 1), head(math.MaxUint64)}
	for range 100000 {
		s := pieces[r.Intn(2)]
		for range r.Intn(12) {
			s += pieces[r.Intn(len(pieces))]
		}
		if r.Intn(8) == 0 {
			s = s[:r.Intn(len(s)+1)]
		}
		holdBytes(t, s, 0)
		holdBytes(t, s, r.Intn(len(s)+4)-2)
	}
	small := "\x00\x01\x02\x03\x09ab\x80"
	for i := range 8 * 8 * 8 * 8 * 8 {
		holdBytes(t, "\x00\x00"+string([]byte{small[i%8], small[i/8%8], small[i/64%8], small[i/512%8], small[i/4096]}), 0)
	}
}

// pick answers one of l.
func pick[T any](r *rand.Rand, l ...T) T {
	return l[r.Intn(len(l))]
}

// someCell answers a cell that is seldom wrong.
func someCell(r *rand.Rand, col string) api.Cell {
	c := number(col, int64(r.Intn(9)-4))
	if (col > "g") != (r.Intn(30) == 0) {
		c = text(col, strings.Repeat("x", r.Intn(41)))
	}
	switch r.Intn(60) {
	case 0:
		c.Kind = r.Intn(5) - 1
	case 1:
		c.S += "x"
	case 2:
		c.N++
	case 3:
		c.Col = pick(r, "", "A", "abcdefghijklm", col+"\x00")
	}
	return c
}

// someRow answers a row that is seldom wrong.
func someRow(r *rand.Rand) api.Row {
	names := letters(16)
	out := of(pick[int64](r, 0, 1, 2, -1, 1<<40, -1<<40), pick(r, 0, 1, 2, mostSeq))
	for _, i := range slices.Sorted(slices.Values(r.Perm(16)[:r.Intn(7)])) {
		out.Cells = append(out.Cells, someCell(r, names[i]))
	}
	switch r.Intn(60) {
	case 0:
		out.Time = pick[int64](r, 1<<40+1, -1<<40-1)
	case 1:
		out.Seq = pick(r, -1, mostSeq+1)
	case 2:
		slices.Reverse(out.Cells)
	case 3:
		out.Cells = append(out.Cells, out.Cells...)
	}
	return out
}

// someCols answers columns that are seldom wrong.
func someCols(r *rand.Rand) []api.Col {
	var out []api.Col
	for _, s := range letters(16) {
		if r.Intn(4) == 0 {
			out = append(out, api.Col{Name: s, Kind: someCell(r, s).Kind})
		}
	}
	if len(out) > 0 && r.Intn(20) == 0 {
		out[r.Intn(len(out))] = api.Col{Name: pick(r, "", "B", "c", "abcdefghijklm"), Kind: r.Intn(4)}
	}
	return out
}

func TestRowsOfEveryKind(t *testing.T) {
	r := rand.New(rand.NewSource(3))
	told := map[api.Errno]int{}
	for range 20000 {
		cols := someCols(r)
		judgedCols(t, "any columns", cols, otherCols(cols))
		var l []api.Row
		for range r.Intn(7) {
			one := someRow(r)
			judged(t, "any row", one, otherRight(one))
			holdBytes(t, written(one), 0)
			l = append(l, one)
		}
		want, why, at := otherGrow(cols, l)
		grown(t, "any rows", cols, l, want, why, at)
		sorted(t, "any rows", l)
		told[why]++
	}
	for _, why := range []api.Errno{api.OK, api.ErrArg, api.ErrKind, api.ErrMany} {
		if told[why] < 200 {
			t.Errorf("Grow answered %d only %d times", why, told[why])
		}
	}
}

func FuzzDecode(f *testing.F) {
	f.Add([]byte("\x01\xac\x02\x02\x01x\x01\x03\x01y\x02\x02ab"), 0)
	f.Add([]byte("zz\x00\x00\x00"), 2)
	f.Add([]byte("\x00\x00\x01\x0d"), 0)
	f.Add([]byte("\x00\x00\x01\x01a\x03"), 0)
	f.Fuzz(func(t *testing.T, b []byte, at int) {
		holdBytes(t, string(b), at)
	})
}

// scribble overwrites all of l's memory, its spare room too.
func scribble[T any](l []T, with T) {
	for i := range l[:cap(l)] {
		l[:cap(l)][i] = with
	}
}

// scribbleRow overwrites r's cells in l, and no other row's.
func scribbleRow(l []api.Row, i int) {
	scribble(l[i].Cells, api.Cell{Col: "scribble", Kind: 99})
	l[i] = api.Row{Time: 99, Seq: 99}
}

func TestSortsAnswerIsNewMemory(t *testing.T) {
	shared := []api.Cell{number("a", 1), number("b", 2), number("c", 3), number("d", 4)}
	for _, l := range [][]api.Row{
		{of(1, 1, number("a", 1))},
		{of(2, 1, number("a", 1), text("b", "x")), of(1, 1, number("c", 1)), of(1, 1), of(0, 0, text("d", ""))},
		{of(2, 2, shared...), of(1, 1, shared...), of(3, 3, shared...)},
		{of(2, 2, shared[:2]...), of(1, 1, shared[2:]...), of(3, 3, shared[:0]...)},
		{of(1, 1), of(2, 2), of(3, 3)},
		{of(1, 1, shared[:1]...), of(1, 1, shared[:1]...)},
	} {
		want := otherSort(l)
		for i := range l {
			given := filledRows(l)
			got, again := row.Sort(given), row.Sort(given)
			scribbleRow(got, i)
			for k := range got {
				if k != i && !sameRow(got[k], want[k]) {
					t.Errorf("R2: Sort: the row %d changes with the row %d: %v", k, i, got[k])
				}
			}
			scribble(got, api.Row{Time: 98})
			if !sameRows(again, want) {
				t.Errorf("R2: Sort's answer changes with another answer: %v", again)
			}
			untouchedRows(t, given, l)
			for k := range given {
				scribble(given[k].Cells, api.Cell{Col: "given"})
			}
			scribble(given, api.Row{Time: 97})
			if !sameRows(again, want) {
				t.Errorf("R2: Sort's answer changes with what was handed in: %v", again)
			}
		}
		// Rows that share their cells among themselves, as they were handed in.
		got := row.Sort(l)
		for i := range got {
			scribbleRow(got, i)
		}
		if !sameRows(otherSort(l), want) {
			t.Errorf("R2: Sort's answer is memory of what was handed in: %v", l)
		}
	}
}

func TestGrowsAnswerIsNewMemory(t *testing.T) {
	for _, c := range []struct {
		cols []api.Col
		l    []api.Row
	}{
		{nil, nil},
		{columns(1, "a"), nil},
		{columns(1, letters(12)...), nil},
		{columns(1, letters(12)...), []api.Row{numbers("b", "c")}},
		{columns(1, "b", "d"), []api.Row{numbers("a", "c"), numbers("e")}},
		{nil, []api.Row{numbers("a", "c"), numbers("b")}},
	} {
		want, _, _ := otherGrow(c.cols, c.l)
		cols, l := filledCols(c.cols), filledRows(c.l)
		got, why, _ := row.Grow(cols, l)
		again, _, _ := row.Grow(cols, l)
		if !slices.Equal(got, want) || why != api.OK {
			t.Errorf("P12.2: Grow: %v, %d, want %v", got, why, want)
		}
		scribble(got, api.Col{Name: "scribble"})
		if !slices.Equal(again, want) {
			t.Errorf("R2: Grow's answer changes with another answer: %v", again)
		}
		untouchedCols(t, cols, c.cols)
		untouchedRows(t, l, c.l)
		scribble(cols, api.Col{Name: "given"})
		if !slices.Equal(again, want) {
			t.Errorf("R2: Grow's answer changes with what was handed in: %v", again)
		}
	}
}

func TestBytesAreNewMemory(t *testing.T) {
	for _, r := range manyRows() {
		one, _ := row.Encode(r)
		two, _ := row.Encode(r)
		scribble(one, 0x11)
		if string(two) != written(r) {
			t.Errorf("R2: Encode's answer changes with another answer: %x", two)
		}
		b := filledBytes("zz" + written(r))
		got, _, _ := row.Decode(b, 2)
		again, _, _ := row.Decode(b, 2)
		scribble(b, 0x22)
		if !sameRow(got, r) {
			t.Errorf("R2: Decode's answer changes with what was handed in: %v, want %v", got, r)
		}
		scribble(got.Cells, api.Cell{Col: "scribble"})
		if !sameRow(again, r) {
			t.Errorf("R2: Decode's answer changes with another answer: %v, want %v", again, r)
		}
	}
}

func ExampleGrow() {
	r := api.Row{Time: -1, Seq: 300, Cells: []api.Cell{{Col: "x", Kind: api.Int, N: -2}, {Col: "y", Kind: api.Text, S: "ab"}}}
	fmt.Println(row.Right(r), row.Cell(r, "y").S)
	fmt.Println(row.Grow([]api.Col{{Name: "w", Kind: api.Int}}, []api.Row{r}))
	b, _ := row.Encode(r)
	fmt.Printf("%x\n", b)
	back, end, _ := row.Decode(b, 0)
	fmt.Println(back, end)
	// Output:
	// true ab
	// [{w 1} {x 1} {y 2}] no error 0
	// 01ac020201780103017902026162
	// {-1 300 [{x 1 -2 } {y 2 0 ab}]} 14
}
