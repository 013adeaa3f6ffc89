package chunk_test

import (
	"bytes"
	"encoding/binary"
	"encoding/hex"
	"fmt"
	"math"
	mathbits "math/bits"
	"math/rand"
	"slices"
	"strings"
	"testing"

	"columbarium/api"
	"columbarium/chunk"
	"columbarium/pred"
)

const (
	room  = 8 // items behind a list's length
	most  = 1 << 16
	first = math.MinInt64
	last  = math.MaxInt64
)

var null = api.Cell{}

func num(n int64) api.Cell { return api.Cell{Kind: api.Int, N: n} }

func str(s string) api.Cell { return api.Cell{Kind: api.Text, S: s} }

func nums(l ...int64) []api.Cell {
	var out []api.Cell
	for _, n := range l {
		out = append(out, num(n))
	}
	return out
}

func strs(l ...string) []api.Cell {
	var out []api.Cell
	for _, s := range l {
		out = append(out, str(s))
	}
	return out
}

// times answers so many cells as c.
func times(n int, c api.Cell) []api.Cell {
	return slices.Repeat([]api.Cell{c}, n)
}

// numbered answers n unlike texts that rise.
func numbered(n int) []api.Cell {
	var out []api.Cell
	for i := range n {
		out = append(out, str(fmt.Sprintf("t%05d", i)))
	}
	return out
}

// withNulls answers l with nulls ahead of, between and behind its cells, as many as their places say.
func withNulls(l []api.Cell, places ...int) []api.Cell {
	out := slices.Clone(l)
	for _, place := range places {
		out = slices.Insert(out, min(place, len(out)), null)
	}
	return out
}

// clean answers l's cells as a column tells them.
func clean(l []api.Cell) []api.Cell {
	out := make([]api.Cell, len(l))
	for i, c := range l {
		switch c.Kind {
		case api.Int:
			out[i] = num(c.N)
		case api.Text:
			out[i] = str(c.S)
		}
	}
	return out
}

// filled answers l with cells in the room behind them that would turn an answer, or make a refusal, if they were read.
func filled(l []api.Cell) []api.Cell {
	out := slices.Clone(l)
	for i := range room {
		out = append(out, []api.Cell{{Kind: 99}, num(7), str("spare"), str(strings.Repeat("z", 41))}[i%4])
	}
	return out[:len(l)]
}

func untouched(t *testing.T, given, l []api.Cell) {
	t.Helper()
	if n := len(l) + room; !slices.Equal(given[:n], filled(l)[:n]) {
		t.Errorf("R2: cells that were handed in were changed: %.200v", given[:n])
	}
}

// filledBytes answers s's bytes with bytes behind them that go on as a column may.
func filledBytes(s string) []byte {
	b := append([]byte(s), 0x01, 0x01, 'a', 0x00, 0x03, 0x01, 'b', 0x02)
	return b[:len(s)]
}

func untouchedBytes(t *testing.T, b []byte, s string) {
	t.Helper()
	if n := len(s) + room; !bytes.Equal(b[:n], filledBytes(s)[:n]) {
		t.Errorf("R2: bytes that were handed in as %.60x were changed", s)
	}
}

// otherRuns is another writing of runs, of numbers of no more than eight bits.
func otherRuns(l []int, width int) string {
	var out []byte
	for len(l) > 0 {
		if n := likes(l); n >= 8 {
			out = binary.AppendUvarint(out, uint64(2*n))
			if width > 0 {
				out = append(out, byte(l[0]))
			}
			l = l[n:]
			continue
		}
		n, packed := 0, []byte(nil)
		for len(l) > 0 && (n == 0 || likes(l) < 8) {
			var word uint64
			for i, x := range l[:min(8, len(l))] {
				word |= uint64(x) << (i * width)
			}
			packed = append(packed, binary.LittleEndian.AppendUint64(nil, word)[:width]...)
			l = l[min(8, len(l)):]
			n++
		}
		out = append(binary.AppendUvarint(out, uint64(2*n+1)), packed...)
	}
	return string(out)
}

// likes answers how many from the first on are the same.
func likes(l []int) int {
	n := 1
	for n < len(l) && l[n] == l[0] {
		n++
	}
	return n
}

// number writes one as varint does, by the library.
func number(n uint64) string { return string(binary.AppendUvarint(nil, n)) }

func signed(n int64) string { return string(binary.AppendVarint(nil, n)) }

func text(s string) string { return number(uint64(len(s))) + s }

// otherHead writes the form, how many cells there are and which are null.
func otherHead(form int, l []api.Cell) string {
	var marks []int
	for _, c := range l {
		mark := 0
		if c.Kind == 0 {
			mark = 1
		}
		marks = append(marks, mark)
	}
	return number(uint64(form)) + number(uint64(len(l))) + otherRuns(marks, 1)
}

// otherEncode is another reckoning of Encode, of cells that it does not refuse.
func otherEncode(kind int, l []api.Cell) string {
	var ints, texts strings.Builder
	var all []string
	for _, c := range l {
		switch c.Kind {
		case api.Int:
			ints.WriteString(signed(c.N))
		case api.Text:
			texts.WriteString(text(c.S))
			all = append(all, c.S)
		}
	}
	if kind == api.Int {
		return otherHead(1, l) + ints.String()
	}
	d := slices.Clone(all)
	slices.Sort(d)
	d = slices.Compact(d)
	if len(d) > 16 {
		return otherHead(3, l) + texts.String()
	}
	return otherHead(2, l) + otherList(d, all)
}

func otherList(d, all []string) string {
	out := number(uint64(len(d)))
	for _, s := range d {
		out += text(s)
	}
	places, greatest := []int(nil), 0
	for _, s := range all {
		place := slices.Index(d, s)
		places = append(places, place)
		greatest = max(greatest, place)
	}
	return out + otherRuns(places, mathbits.Len(uint(greatest)))
}

// loose reads what may have been written in more than one way.
type loose struct {
	s   string
	bad bool
}

func (r *loose) number() uint64 {
	n, size := binary.Uvarint([]byte(r.s))
	if size <= 0 {
		r.bad = true
		return 0
	}
	r.s = r.s[size:]
	return n
}

func (r *loose) bytes(n uint64) string {
	if n > uint64(len(r.s)) {
		r.bad = true
		return ""
	}
	out := r.s[:n]
	r.s = r.s[n:]
	return out
}

func (r *loose) runs(n, width int) []int {
	var out []int
	for len(out) < n && !r.bad {
		head := r.number()
		switch {
		case head/2 == 0 || head/2 > uint64(n):
			r.bad = true
		case head%2 == 0:
			x := 0
			if b := r.bytes(uint64(min(width, 1))); b != "" {
				x = int(b[0])
			}
			out = append(out, slices.Repeat([]int{x}, int(head/2))...)
		default:
			for range head / 2 {
				b := append([]byte(r.bytes(uint64(width))), make([]byte, 8)...)
				for i := range 8 {
					out = append(out, int(binary.LittleEndian.Uint64(b)>>(i*width)&(1<<width-1)))
				}
			}
		}
	}
	return out[:min(n, len(out))]
}

// otherOpen is another reckoning of Open: what is read loosely is written again.
func otherOpen(s string) (int, []api.Cell, bool) {
	r := loose{s: s}
	form, n := r.number(), r.number()
	if r.bad || n > most {
		return 0, nil, false
	}
	var d []string
	var places []int
	marks, kind := r.runs(int(n), 1), api.Text
	live := 0
	for _, mark := range marks {
		if mark == 0 {
			live++
		}
	}
	if form == 2 {
		for range min(r.number(), 17) {
			d = append(d, r.bytes(r.number()))
		}
		places = r.runs(live, mathbits.Len(uint(max(len(d)-1, 0))))
	}
	var l []api.Cell
	for _, mark := range marks {
		switch {
		case mark != 0:
			l = append(l, null)
			continue
		case form == 1:
			n := r.number()
			l = append(l, num(int64(n>>1)^-int64(n&1)))
		case form == 2 && len(places) > 0 && places[0] < len(d):
			l, places = append(l, str(d[places[0]])), places[1:]
		case form == 3:
			l = append(l, str(r.bytes(r.number())))
		default:
			return 0, nil, false
		}
		if len(l[len(l)-1].S) > 40 || r.bad {
			return 0, nil, false
		}
	}
	if form == 1 {
		kind = api.Int
	}
	if r.bad || len(l) != int(n) || otherEncode(kind, l) != s {
		return 0, nil, false
	}
	return kind, l, true
}

// otherWhere is another reckoning of Where.
func otherWhere(p api.Pred, l []api.Cell) []bool {
	var out []bool
	for _, c := range l {
		is := false
		switch p.Kind {
		case 4:
			is = c.Kind == 1 && c.N < p.N
		case 5:
			is = c.Kind == 1 && c.N == p.N
		case 6:
			is = c.Kind == 2 && c.S == p.S
		case 7:
			for _, s := range p.Set {
				is = is || c.Kind == 2 && c.S == s
			}
		case 8:
			is = c.Kind == 2 && len(c.S) >= len(p.S) && c.S[:len(p.S)] == p.S
		case 9:
			is = c.Kind == 0
		}
		out = append(out, is)
	}
	return out
}

// evaluated answers what pred.Eval says of a row of each cell alone; of Kinds that ask no cell, false.
func evaluated(p api.Pred, l []api.Cell) []bool {
	var out []bool
	for _, c := range l {
		r := api.Row{}
		if c.Kind != 0 {
			r.Cells = []api.Cell{{Col: p.Col, Kind: c.Kind, N: c.N, S: c.S}}
		}
		asks := p.Kind > api.Not && p.Kind != api.Between
		out = append(out, asks && pred.Eval(p, r))
	}
	return out
}

// filledPred answers p with texts and parts behind its own that would turn an answer if they were read.
func filledPred(p api.Pred) api.Pred {
	set, kids := slices.Clone(p.Set), slices.Clone(p.Kids)
	for i := range room {
		set = append(set, []string{"", "a", "b", "ab"}[i%4])
		kids = append(kids, api.Pred{Kind: 1 + i})
	}
	p.Set, p.Kids = set[:len(p.Set)], kids[:len(p.Kids)]
	return p
}

func samePred(a, b api.Pred) bool {
	return a.Kind == b.Kind && a.Col == b.Col && a.N == b.N && a.M == b.M && a.S == b.S && slices.Equal(a.Set, b.Set) && slices.EqualFunc(a.Kids, b.Kids, samePred)
}

func sameFilled(a, b api.Pred) bool {
	if len(a.Set) != len(b.Set) || len(a.Kids) != len(b.Kids) {
		return false
	}
	sets, kids := len(a.Set)+room, len(a.Kids)+room
	a.Set, a.Kids, b.Set, b.Kids = a.Set[:sets], a.Kids[:kids], b.Set[:sets], b.Kids[:kids]
	return samePred(a, b)
}

// opened answers the column of s's bytes, and writes over them behind the Open.
func opened(t *testing.T, s string) *chunk.Chunk {
	t.Helper()
	b := filledBytes(s)
	c, why := chunk.Open(b)
	if why != api.OK || c == nil {
		t.Fatalf("P15.2: Open(%.60x): %d", s, why)
	}
	untouchedBytes(t, b, s)
	for i := range b[:cap(b)] {
		b[:cap(b)][i] ^= 0xff
	}
	return c
}

// open answers the column of l's cells.
func open(t *testing.T, kind int, l []api.Cell) *chunk.Chunk {
	t.Helper()
	b, why := chunk.Encode(kind, l)
	if why != api.OK {
		t.Fatalf("P15.1: Encode(%d, %.60v): %d", kind, l, why)
	}
	return opened(t, string(b))
}

// refused fails unless Open answers nil and ErrForm.
func refused(t *testing.T, name, s string) {
	t.Helper()
	b := filledBytes(s)
	if c, why := chunk.Open(b); c != nil || why != api.ErrForm {
		t.Errorf("P15.2: Open(%.60x), %s: %v, %d, want nil, ErrForm", s, name, c != nil, why)
	}
	untouchedBytes(t, b, s)
}

// unlike answers the dictionary of l's texts, and whether a column of that Kind has one.
func unlike(kind int, l []api.Cell) ([]string, bool) {
	var d []string
	for _, c := range l {
		if c.Kind == api.Text {
			d = append(d, c.S)
		}
	}
	slices.Sort(d)
	d = slices.Compact(d)
	if kind != api.Text || len(d) > 16 {
		return nil, false
	}
	return d, true
}

// tells fails unless c tells l's cells.
func tells(t *testing.T, name string, c *chunk.Chunk, kind int, l []api.Cell) {
	t.Helper()
	if c.Kind() != kind || c.Rows() != len(l) {
		t.Errorf("P15.2: %s: Kind %d, %d Rows, want %d, %d", name, c.Kind(), c.Rows(), kind, len(l))
	}
	var places []int
	for i, want := range l {
		if got := c.Cell(i); got != want {
			t.Fatalf("P15.2: %s: Cell(%d): %v, want %v", name, i, got, want)
		}
		places = append(places, i)
	}
	for _, i := range []int{-1, len(l), len(l) + 1, math.MinInt, math.MaxInt} {
		if got := c.Cell(i); got != null {
			t.Errorf("P15.2: %s: Cell(%d): %v, want a null", name, i, got)
		}
	}
	if got := c.Pick(places); !slices.Equal(got, l) {
		t.Errorf("P15.2: %s: Pick of all: %.60v, want %.60v", name, got, l)
	}
	wantDict, wantOk := unlike(kind, l)
	if d, ok := c.Dict(); !slices.Equal(d, wantDict) || ok != wantOk {
		t.Errorf("P15.2: %s: Dict: %.60q, %v, want %.60q, %v", name, d, ok, wantDict, wantOk)
	}
}

// asked fails unless c, which has l's cells, answers p so, with dictionaries and without.
func asked(t *testing.T, name string, c *chunk.Chunk, p api.Pred, l []api.Cell) {
	t.Helper()
	want := otherWhere(p, l)
	if says := evaluated(p, l); !slices.Equal(says, want) {
		t.Fatalf("%s: %v: pred.Eval says %.60v, the other reckoning %.60v", name, p, says, want)
	}
	for _, dicts := range []bool{true, false} {
		given := filledPred(p)
		if got := c.Where(given, dicts); !slices.Equal(got, want) {
			t.Fatalf("P15.3: %s: Where(%v, %v): %.60v, want %.60v", name, p, dicts, got, want)
		}
		if !sameFilled(given, filledPred(p)) {
			t.Errorf("R2: %s: a predicate that was handed in was changed: %v", name, given)
		}
	}
}

// near answers predicates of each Kind that asks a cell, at each bound of c.
func near(c api.Cell) []api.Pred {
	out := []api.Pred{{Kind: api.Null, Col: "x"}}
	for _, n := range []int64{c.N, c.N - 1, c.N + 1, first, last, 0} {
		out = append(out, api.Pred{Kind: api.Less, Col: "x", N: n}, api.Pred{Kind: api.Equal, Col: "x", N: n})
	}
	for _, s := range []string{c.S, c.S + "\x00", c.S[:len(c.S)/2], ""} {
		out = append(out, api.Pred{Kind: api.Is, Col: "x", S: s}, api.Pred{Kind: api.Prefix, Col: "x", S: s},
			api.Pred{Kind: api.In, Col: "x", Set: []string{s}}, api.Pred{Kind: api.In, Col: "x", Set: []string{s, s + "z"}})
	}
	return append(out, api.Pred{Kind: api.In, Col: "x"})
}

// holds holds Encode of l, and all that the column tells that is opened from it, against the other reckonings.
func holds(t *testing.T, name string, kind int, l []api.Cell) {
	t.Helper()
	given := filled(l)
	b, why := chunk.Encode(kind, given)
	want := otherEncode(kind, l)
	if string(b) != want || why != api.OK {
		t.Errorf("P15.1: Encode, %s: %.60x, %d, want %.60x", name, b, why, want)
	}
	untouched(t, given, l)
	c := opened(t, want)
	tells(t, name, c, kind, clean(l))
	for i, cell := range l {
		if i > 3 && i < len(l)-2 {
			continue
		}
		for _, p := range near(cell) {
			asked(t, name, c, p, clean(l))
		}
	}
	for _, p := range near(null) {
		asked(t, name, c, p, clean(l))
	}
	tells(t, name+", asked again", c, kind, clean(l))
}

// written fails unless Encode of l gives the bytes that s spells, and Open of them tells l.
func written(t *testing.T, name string, kind int, l []api.Cell, s string) {
	t.Helper()
	want, err := hex.DecodeString(strings.ReplaceAll(s, " ", ""))
	if err != nil {
		t.Fatal(err)
	}
	b, why := chunk.Encode(kind, l)
	if !bytes.Equal(b, want) || why != api.OK {
		t.Errorf("P15.1: Encode, %s: %x, %d, want %x", name, b, why, want)
	}
	tells(t, name, opened(t, string(want)), kind, clean(l))
	holds(t, name, kind, l)
}

func TestTheChaptersRun(t *testing.T) {
	c := open(t, api.Int, []api.Cell{num(5), null, num(7)})
	if got := c.Pick([]int{0, 1, 2}); !slices.Equal(got, []api.Cell{num(5), null, num(7)}) {
		t.Errorf("P15.2: %v, want 5, null, 7", got)
	}
	if c.Rows() != 3 || c.Cell(0) != num(5) || c.Cell(1) != null || c.Cell(2) != num(7) {
		t.Errorf("P15.2: %d: %v, %v, %v, want 5, null, 7", c.Rows(), c.Cell(0), c.Cell(1), c.Cell(2))
	}
}

func TestTheChaptersExamples(t *testing.T) {
	b, why := chunk.Encode(api.Text, numbered(17))
	if why != api.OK || b[0] != 3 {
		t.Errorf("P15.1: seventeen unlike texts: %x, %d, want form 3", b, why)
	}
	if d, ok := opened(t, string(b)).Dict(); len(d) > 0 || ok {
		t.Errorf("P15.2: seventeen unlike texts: %q, %v", d, ok)
	}
	for kind, want := range map[int]string{api.Int: "\x01\x00", api.Text: "\x02\x00\x00"} {
		for _, l := range [][]api.Cell{nil, {}} {
			if b, why := chunk.Encode(kind, l); string(b) != want || why != api.OK {
				t.Errorf("P15.1: Encode of none: %x, %d, want %x", b, why, want)
			}
		}
	}
}

func TestBytesOfInts(t *testing.T) {
	for _, c := range []struct {
		name, want string
		l          []api.Cell
	}{
		{"none", "01 00", nil},
		{"one", "01 01 0300 0a", nums(5)},
		{"one null", "01 01 0301", times(1, null)},
		{"seven nulls", "01 07 037f", times(7, null)},
		{"eight nulls", "01 08 1001", times(8, null)},
		{"three hundred nulls", "01 ac02 d80401", times(300, null)},
		{"two and a null", "01 03 0302 0a 0e", []api.Cell{num(5), null, num(7)}},
		{"small ones", "01 04 0300 00 01 02 03", nums(0, -1, 1, -2)},
		{"those that need two bytes", "01 04 0300 7f 7e 8001 8101", nums(-64, 63, 64, -65)},
		{"both ends", "01 02 0300 ffffffffffffffffff01 feffffffffffffffff01", nums(first, last)},
		{"eight and a null", "01 09 1000 0301 0000000000000000", append(times(8, num(0)), null)},
		{"the same, once for each", "01 09 1200 020202020202020202", times(9, num(1))},
	} {
		written(t, c.name, api.Int, c.l, c.want)
	}
}

func TestBytesOfDictionaries(t *testing.T) {
	for _, c := range []struct {
		name, want string
		l          []api.Cell
	}{
		{"none", "02 00 00", nil},
		{"one null", "02 01 0301 00", times(1, null)},
		{"eight nulls", "02 08 1001 00", times(8, null)},
		{"one", "02 01 0300 01 0161 03", strs("a")},
		{"an empty one", "02 01 0300 01 00 03", strs("")},
		{"one nine times", "02 09 1200 01 0161 12", times(9, str("a"))},
		{"two and a null", "02 03 0302 02 0161 0162 0301", []api.Cell{str("b"), null, str("a")}},
		{"two in order", "02 02 0300 02 0161 0162 0302", strs("a", "b")},
		{"an empty one and another", "02 03 0300 02 00 0161 0303", strs("a", "a", "")},
		{"three: two bits", "02 03 0300 03 0161 0162 0163 030600", strs("c", "b", "a")},
		{"five: three bits", "02 05 0300 05 0161 0162 0163 0164 0165 03884600", strs("a", "b", "c", "d", "e")},
		{"eight of the second, then two of the first", "02 0a 1400 02 0161 0162 1001 0300", append(times(8, str("b")), strs("a", "a")...)},
		{"bytes", "02 03 0300 03 0100 0180 01ff 031200", strs("\xff", "\x00", "\x80")},
	} {
		written(t, c.name, api.Text, c.l, c.want)
	}
}

func TestBytesOfPlainTexts(t *testing.T) {
	letters, want := []api.Cell(nil), "03 11 2200"
	for i := range 17 {
		letters = append(letters, str(string(rune('q'-i))))
		want += fmt.Sprintf(" 01%02x", 'q'-i)
	}
	written(t, "seventeen that fall", api.Text, letters, want)
	written(t, "seventeen and one again", api.Text, append(slices.Clone(letters), str("q")), strings.Replace(want, "11 2200", "12 2400", 1)+" 0171")
	written(t, "a null, and seventeen", api.Text, withNulls(letters, 0), strings.Replace(want, "11 2200", "12 0301 1400", 1))
	letters[3].S = ""
	written(t, "an empty one", api.Text, letters, strings.Replace(want, " 016e", " 00", 1))
}

func TestEachForm(t *testing.T) {
	ints, dict := nums(3, -4, 3, 0, last, first, 8, 8, 8, 8), strs("b", "", "ab", "b", "b")
	for _, c := range []struct {
		kind int
		l    []api.Cell
	}{{api.Int, ints}, {api.Text, dict}, {api.Text, numbered(17)}, {api.Text, append(numbered(20), numbered(20)...)}} {
		holds(t, "no nulls", c.kind, c.l)
		holds(t, "one cell", c.kind, c.l[:1])
		holds(t, "a null ahead", c.kind, withNulls(c.l, 0))
		holds(t, "a null behind", c.kind, withNulls(c.l, len(c.l)))
		holds(t, "nulls between", c.kind, withNulls(c.l, 1, 3, 3, 5))
		holds(t, "eight nulls ahead", c.kind, slices.Concat(times(8, null), c.l))
		holds(t, "nine nulls behind", c.kind, slices.Concat(c.l, times(9, null)))
		holds(t, "nulls all around", c.kind, slices.Concat(times(3, null), c.l, times(20, null), c.l, times(1, null)))
		holds(t, "again and again", c.kind, slices.Repeat(c.l, 30))
	}
}

func TestNullsAlone(t *testing.T) {
	for _, kind := range []int{api.Int, api.Text} {
		for n := range 40 {
			holds(t, fmt.Sprint(n, " nulls"), kind, times(n, null))
		}
		holds(t, "a thousand nulls", kind, times(1000, null))
	}
}

func TestIntsAtTheirEnds(t *testing.T) {
	for _, n := range []int64{0, 1, -1, 63, 64, -64, -65, 1 << 40, -1 << 40, last, last - 1, first, first + 1} {
		holds(t, "an Int alone", api.Int, nums(n))
		holds(t, "an Int among others", api.Int, withNulls(nums(1, n, n, -1), 2))
	}
	for i := range 63 {
		n := int64(1) << i
		holds(t, "powers of two", api.Int, nums(n, -n, n-1, -n-1))
	}
}

func TestTextsOfAnyBytes(t *testing.T) {
	var all []api.Cell
	for i := range 256 {
		one := string([]byte{byte(i)})
		all = append(all, str(one))
		holds(t, "a byte alone", api.Text, strs(one))
	}
	holds(t, "each byte", api.Text, all)
	holds(t, "sixteen of the greatest bytes", api.Text, all[240:])
	holds(t, "texts that begin with one another", api.Text, strs("", "a", "aa", "aaa", "a\x00", "a\xff", "\xc3\xa4", "\xc3"))
}

func TestLongTexts(t *testing.T) {
	for _, n := range []int{0, 1, 39, 40} {
		long := strings.Repeat("\xff", n)
		holds(t, "alone", api.Text, strs(long))
		holds(t, "among others", api.Text, withNulls(strs("a", long, "b", long), 1))
		holds(t, "among plain ones", api.Text, append(numbered(20), str(long), str(long)))
		var many []api.Cell
		for i := range 17 {
			many = append(many, str(strings.Repeat(string(rune('a'+i)), n)))
		}
		holds(t, "seventeen", api.Text, many)
		holds(t, "sixteen", api.Text, many[1:])
	}
}

func TestAsManyTextsAsADictionaryHas(t *testing.T) {
	for n := range 20 {
		l := numbered(n)
		back := slices.Clone(l)
		slices.Reverse(back)
		for i, l := range [][]api.Cell{l, back, slices.Concat(l, l), slices.Concat(l, back, l), slices.Repeat(l, 9), withNulls(l, 0, 2, 9, 20)} {
			name := fmt.Sprint(n, " unlike texts, in the way ", i)
			holds(t, name, api.Text, l)
			b, _ := chunk.Encode(api.Text, l)
			if form := map[bool]byte{true: 2, false: 3}[n <= 16]; b[0] != form {
				t.Errorf("P15.1: %s: form %d, want %d", name, b[0], form)
			}
		}
		var each []api.Cell
		for _, c := range l {
			each = append(each, times(9, c)...)
		}
		holds(t, "each nine times", api.Text, each)
	}
	// Nulls are no texts: sixteen and a null have a dictionary.
	holds(t, "sixteen and nulls that look like texts", api.Text, append(numbered(16), api.Cell{S: "another"}, api.Cell{S: "one more"}))
}

func TestFieldsThatDoNotMatter(t *testing.T) {
	nothing := api.Cell{Col: "z", N: 9, S: strings.Repeat("n", 100)}
	for _, c := range []struct {
		name  string
		kind  int
		l, as []api.Cell
	}{
		{"a null's, of Ints", api.Int, []api.Cell{num(1), nothing}, []api.Cell{num(1), null}},
		{"a null's, of Texts", api.Text, []api.Cell{nothing, str("a")}, []api.Cell{null, str("a")}},
		{"nulls' alone", api.Text, times(9, nothing), times(9, null)},
		{"an Int's", api.Int, []api.Cell{{Col: "x", Kind: api.Int, N: -1, S: strings.Repeat("s", 41)}, {Col: "not a name", Kind: api.Int, S: "t"}}, nums(-1, 0)},
		{"a Text's", api.Text, []api.Cell{{Col: "x", Kind: api.Text, N: 7, S: "a"}, {Kind: api.Text, N: first, S: "b"}, {Col: "\xff", Kind: api.Text, N: 8, S: "a"}}, strs("a", "b", "a")},
		{"plain Texts'", api.Text, append(numbered(17), api.Cell{Col: "y", Kind: api.Text, N: 1, S: "t00000"}), append(numbered(17), str("t00000"))},
	} {
		got, _ := chunk.Encode(c.kind, c.l)
		want, why := chunk.Encode(c.kind, c.as)
		if !bytes.Equal(got, want) || why != api.OK {
			t.Errorf("P15.1: %s: %x, want %x", c.name, got, want)
		}
		tells(t, c.name, open(t, c.kind, c.l), c.kind, c.as)
		holds(t, c.name, c.kind, c.l)
	}
}

func TestEncodesRefusals(t *testing.T) {
	long := str(strings.Repeat("x", 41))
	longer := str(strings.Repeat("\x00", 4000))
	many := make([]api.Cell, most+1)
	spoilt := append(make([]api.Cell, most), str("a"))
	kinds := []int{0, -1, 3, 4, math.MinInt, math.MaxInt, 1 << 32, 1<<32 + 1, 1<<32 + 2, 257, 258}
	type refusal struct {
		name string
		kind int
		l    []api.Cell
		want api.Errno
	}
	all := []refusal{
		{"2^16 and one more, of Ints", api.Int, many, api.ErrMany},
		{"2^16 and one more, of Texts", api.Text, many, api.ErrMany},
		{"many that are not so", api.Int, spoilt, api.ErrMany},
		{"many with a text too long", api.Text, append(make([]api.Cell, most), long), api.ErrMany},
		{"twice as many", api.Int, make([]api.Cell, 2*most), api.ErrMany},
		{"a Text of Ints", api.Int, strs("a"), api.ErrArg},
		{"an empty Text of Ints", api.Int, strs(""), api.ErrArg},
		{"an Int of Texts", api.Text, nums(1), api.ErrArg},
		{"an Int 0 of Texts", api.Text, nums(0), api.ErrArg},
		{"the last one", api.Int, append(nums(1, 2, 3), str("a")), api.ErrArg},
		{"the last one of 2^16", api.Text, append(make([]api.Cell, most-1), num(1)), api.ErrArg},
		{"behind nulls", api.Text, append(times(20, null), num(1)), api.ErrArg},
		{"a long text", api.Text, []api.Cell{long}, api.ErrArg},
		{"a longer text", api.Text, []api.Cell{longer}, api.ErrArg},
		{"a long text of Ints", api.Int, []api.Cell{long}, api.ErrArg},
		{"a long text among many", api.Text, append(numbered(30), long), api.ErrArg},
		{"a long text, then an Int", api.Text, []api.Cell{long, num(1)}, api.ErrArg},
	}
	for _, kind := range kinds {
		all = append(all, refusal{"a Kind that is none", kind, nil, api.ErrKind}, refusal{"a Kind that is none, of nulls", kind, times(3, null), api.ErrKind},
			refusal{"a Kind that is none, and cells of it", kind, []api.Cell{{Kind: kind}}, api.ErrKind}, refusal{"a Kind that is none, and many", kind, many, api.ErrKind},
			refusal{"a Kind that is none, and many that are not so", kind, spoilt, api.ErrKind}, refusal{"a Kind that is none, and a Text too long", kind, []api.Cell{long}, api.ErrKind})
		if kind != 0 {
			all = append(all, refusal{"a cell of no Kind, of Ints", api.Int, []api.Cell{num(1), {Kind: kind}}, api.ErrArg}, refusal{"a cell of no Kind, of Texts", api.Text, []api.Cell{{Kind: kind}}, api.ErrArg})
		}
	}
	for _, c := range all {
		given := filled(c.l)
		if b, why := chunk.Encode(c.kind, given); len(b) != 0 || why != c.want {
			t.Errorf("P15.1: Encode, %s: %.60x, %d, want none, %d", c.name, b, why, c.want)
		}
		untouched(t, given, c.l)
	}
}

// short holds what is too long for holds: each row is asked by few predicates.
func short(t *testing.T, name string, kind int, l []api.Cell) {
	t.Helper()
	b, why := chunk.Encode(kind, filled(l))
	if string(b) != otherEncode(kind, l) || why != api.OK {
		t.Errorf("P15.1: Encode, %s: %d bytes, %d", name, len(b), why)
	}
	c := opened(t, string(b))
	tells(t, name, c, kind, l)
	for _, p := range []api.Pred{{Kind: api.Null, Col: "x"}, {Kind: api.Less, Col: "x", N: 7}, {Kind: api.Is, Col: "x", S: "a"}, {Kind: api.Prefix, Col: "x", S: "t0000"}} {
		asked(t, name, c, p, l)
	}
}

func TestAsManyCellsAsMayBe(t *testing.T) {
	for _, n := range []int{most - 1, most} {
		ints, few, lots := make([]api.Cell, n), make([]api.Cell, n), make([]api.Cell, n)
		for i := range n {
			ints[i] = num(int64(i*i) - 1<<20)
			few[i] = str([]string{"b", "a", "c"}[i*i%3])
			lots[i] = str(fmt.Sprintf("t%05d", i*7%n))
		}
		short(t, "nulls", api.Int, make([]api.Cell, n))
		short(t, "nulls of Texts", api.Text, make([]api.Cell, n))
		short(t, "Ints", api.Int, ints)
		short(t, "few unlike texts", api.Text, few)
		short(t, "the same text", api.Text, times(n, str("a")))
		short(t, "unlike texts", api.Text, lots)
		ints[n/2], few[n-1], lots[0] = null, null, null
		short(t, "Ints and a null", api.Int, ints)
		short(t, "few unlike texts and a null", api.Text, few)
		short(t, "unlike texts and a null", api.Text, lots)
	}
}

// seventeen writes the texts a to q, plain.
func seventeen() string {
	var out string
	for i := range 17 {
		out += text(string(rune('a' + i)))
	}
	return out
}

func TestOpenRefusesHeads(t *testing.T) {
	refused(t, "nothing", "")
	for _, s := range []string{"\x01", "\x02", "\x03"} {
		refused(t, "a form alone", s)
		refused(t, "a form, and a number that does not end", s+"\x80")
	}
	for _, form := range []uint64{0, 4, 5, 127, 128, 129, 130, 257, 258, 1<<32 + 1, 1<<32 + 2, 1<<63 + 1, 1<<64 - 1} {
		for _, s := range []string{"", "\x00", "\x00\x00", "\x01\x03\x00\x0a", "\x01\x03\x00\x01\x01a\x03", "\x11\x22\x00" + seventeen()} {
			refused(t, "a form that is none", number(form)+s)
		}
	}
	for _, n := range []uint64{most + 1, most + 2, 2 * most, 1 << 20, 1<<20 + 1, 1<<32 + 1, 1 << 62, 1 << 63, 1<<63 + 1, 1<<64 - 1} {
		for form, s := range []string{"", "", "\x00", ""} {
			refused(t, "too many cells", number(uint64(form))+number(n)+number(2*n)+"\x01"+s)
			refused(t, "too many cells, and nothing else", number(uint64(form))+number(n)+s)
		}
	}
	for _, s := range []string{"\x81\x00\x00", "\x01\x80\x00", "\x82\x00\x00\x00", "\x02\x80\x00\x00", "\x01\x81\x00\x03\x00\x0a", "\x01\x81\x80\x00\x03\x00\x0a", "\x01\x80\x80\x80\x80\x80\x80\x80\x80\x80\x80\x01"} {
		refused(t, "a number that is longer than it need be", s)
	}
	opened(t, "\x01\x80\x80\x04\x80\x80\x08\x01")
	opened(t, "\x02\x80\x80\x04\x80\x80\x08\x01\x00")
	refused(t, "2^16 and one more", "\x01\x81\x80\x04\x82\x80\x08\x01")
	refused(t, "2^16 and one more, of Texts", "\x02\x81\x80\x04\x82\x80\x08\x01\x00")
}

func TestOpenRefusesRunsOfNulls(t *testing.T) {
	opened(t, "\x01\x01\x03\x01")
	opened(t, "\x01\x08\x10\x01")
	for name, s := range map[string]string{
		"a run of one":                        "\x01\x01\x02\x01",
		"a run of seven":                      "\x01\x07\x0e\x01",
		"a run of none":                       "\x01\x01\x00\x01\x03\x01",
		"eight in a group":                    "\x01\x08\x03\xff",
		"two runs of the same":                "\x01\x10\x10\x01\x10\x01",
		"two groups apart":                    "\x01\x10\x03\x55\x03\x55",
		"a mark of 2 in a run":                "\x01\x08\x10\x02",
		"a mark of 255 in a run":              "\x01\x08\x10\xff",
		"one filled up with 1":                "\x01\x01\x03\x03",
		"none where one should be":            "\x01\x01",
		"one where none should be":            "\x01\x00\x03\x01",
		"a run that is too long":              "\x01\x08\x12\x01",
		"a run that is too short":             "\x01\x09\x10\x01",
		"a group too many":                    "\x01\x01\x05\x01\x00",
		"a group's bytes lack":                "\x01\x01\x03",
		"a run's byte lacks":                  "\x01\x08\x10",
		"a head that is longer than need be":  "\x01\x01\x83\x00\x01",
		"a run of 2^63 - 1":                   "\x01\x08\xfe\xff\xff\xff\xff\xff\xff\xff\xff\x01\x01",
		"2^63 - 1 groups":                     "\x01\x08\xff\xff\xff\xff\xff\xff\xff\xff\xff\x01\x01",
		"runs of two cells, Texts":            "\x02\x02\x04\x01\x00",
		"a mark of 2 in a run, Texts":         "\x02\x08\x10\x02\x00",
		"a mark of 3 in a run, plain Texts":   "\x03\x19\x10\x03\x22\x00" + seventeen(),
		"groups where a run should be, plain": "\x03\x11\x07\x00\x00\x00" + seventeen(),
	} {
		refused(t, name, s)
	}
}

func TestOpenRefusesNumbers(t *testing.T) {
	for name, s := range map[string]string{
		"none":                     "\x01\x01\x03\x00",
		"one that does not end":    "\x01\x01\x03\x00\x80",
		"one with a last 0":        "\x01\x01\x03\x00\x80\x00",
		"one of eleven bytes":      "\x01\x01\x03\x00\x80\x80\x80\x80\x80\x80\x80\x80\x80\x80\x01",
		"one of 2^64":              "\x01\x01\x03\x00\x80\x80\x80\x80\x80\x80\x80\x80\x80\x02",
		"one too few":              "\x01\x02\x03\x00\x0a",
		"one too many":             "\x01\x01\x03\x00\x0a\x0a",
		"one of a null":            "\x01\x01\x03\x01\x0a",
		"one beside a null":        "\x01\x02\x03\x01\x0a\x0a",
		"one of no cells":          "\x01\x00\x0a",
		"the second is too long":   "\x01\x02\x03\x00\x0a\x8a\x00",
		"a dictionary behind them": "\x01\x01\x03\x00\x0a\x01\x01a\x03",
	} {
		refused(t, name, s)
	}
}

func TestOpenRefusesDictionaries(t *testing.T) {
	long := strings.Repeat("x", 41)
	opened(t, "\x02\x01\x03\x00\x01\x28"+long[1:]+"\x03")
	sixteen := "\x02\x11\x22\x00"
	for name, s := range map[string]string{
		"none":                                   "\x02\x01\x03\x01",
		"of no cells: none":                      "\x02\x00",
		"how many does not end":                  "\x02\x00\x80",
		"how many is too long":                   "\x02\x00\x80\x00",
		"of no texts, and a cell":                "\x02\x01\x03\x00\x00\x03",
		"of no texts, and nine cells":            "\x02\x09\x12\x00\x00\x12",
		"of no texts, and a cell, without width": "\x02\x01\x03\x00\x00",
		"one that no cell has":                   "\x02\x01\x03\x00\x02\x01a\x01b\x03\x00",
		"the first is one that no cell has":      "\x02\x01\x03\x00\x02\x01a\x01b\x03\x01",
		"the middle is one that no cell has":     "\x02\x02\x03\x00\x03\x01a\x01b\x01c\x03\x08\x00",
		"the last is one that no cell has":       "\x02\x02\x03\x00\x03\x01a\x01b\x01c\x03\x04\x00",
		"the last, by the lesser width":          "\x02\x02\x03\x00\x03\x01a\x01b\x01c\x03\x02",
		"one, and nulls alone":                   "\x02\x01\x03\x01\x01\x01a",
		"one, and no cells":                      "\x02\x00\x01\x01a",
		"one that falls":                         "\x02\x02\x03\x00\x02\x01b\x01a\x03\x01",
		"one twice":                              "\x02\x02\x03\x00\x02\x01a\x01a\x03\x02",
		"one that rises by length alone":         "\x02\x02\x03\x00\x02\x01b\x02aa\x03\x02",
		"a place past its end":                   "\x02\x03\x03\x00\x03\x01a\x01b\x01c\x03\x34\x00",
		"a place past its end alone":             "\x02\x01\x03\x00\x03\x01a\x01b\x01c\x03\x03\x00",
		"places past its end in a run":           "\x02\x0b\x16\x00\x03\x01a\x01b\x01c\x03\x24\x00\x10\x03",
		"a place above the width":                "\x02\x08\x10\x00\x02\x01a\x01b\x10\x02",
		"a place of one text that is not 0":      "\x02\x01\x03\x00\x01\x01a\x03\x01",
		"places by a greater width":              "\x02\x02\x03\x00\x02\x01a\x01b\x03\x04\x00",
		"places by no width":                     "\x02\x02\x03\x00\x02\x01a\x01b\x03",
		"no places":                              "\x02\x01\x03\x00\x01\x01a",
		"a place too few":                        "\x02\x09\x12\x00\x01\x01a\x10",
		"a place too many":                       "\x02\x08\x10\x00\x01\x01a\x12",
		"a place of a null":                      "\x02\x01\x03\x01\x01\x01a\x03",
		"runs that are not so":                   "\x02\x01\x03\x00\x01\x01a\x02",
		"eight in a group":                       "\x02\x08\x10\x00\x01\x01a\x03",
		"one filled up with 1":                   "\x02\x02\x03\x00\x02\x01a\x01b\x03\x06",
		"a text that is too long":                "\x02\x01\x03\x00\x01\x29" + long + "\x03",
		"a text's length that is too long":       "\x02\x01\x03\x00\x01\x81\x00a\x03",
		"a text's bytes lack":                    "\x02\x01\x03\x00\x01\x09a\x03",
		"a text of 2^63 bytes":                   "\x02\x01\x03\x00\x01\x80\x80\x80\x80\x80\x80\x80\x80\x80\x01a\x03",
		"texts lack":                             "\x02\x01\x03\x00\x02\x01a",
		"2^64 - 1 texts":                         "\x02\x01\x03\x00\xff\xff\xff\xff\xff\xff\xff\xff\xff\x01\x01a\x03",
		"seventeen texts":                        sixteen + "\x11" + seventeen() + otherRuns(upTo(17), 5),
		"seventeen texts, by four bits":          sixteen + "\x11" + seventeen() + otherRuns(upTo(16), 4),
		"sixteen texts, plain ones behind them":  sixteen + "\x10" + seventeen(),
		"a byte behind":                          "\x02\x01\x03\x00\x01\x01a\x03\x00",
	} {
		refused(t, name, s)
	}
}

// upTo answers the n numbers from 0 on.
func upTo(n int) []int {
	out := make([]int, n)
	for i := range out {
		out[i] = i
	}
	return out
}

func TestOpenRefusesPlainTexts(t *testing.T) {
	head := "\x03\x11\x22\x00"
	opened(t, head+seventeen())
	sixteen := seventeen()[:32]
	long := strings.Repeat("x", 41)
	opened(t, head+sixteen+"\x28"+long[1:])
	for name, s := range map[string]string{
		"no cells":                         "\x03\x00",
		"no cells, and a dictionary":       "\x03\x00\x00",
		"a null":                           "\x03\x01\x03\x01",
		"one":                              "\x03\x01\x03\x00\x01a",
		"one seventeen times":              head + strings.Repeat("\x01a", 17),
		"sixteen":                          "\x03\x10\x20\x00" + sixteen,
		"sixteen, and one again":           head + sixteen + "\x01a",
		"sixteen, twice":                   "\x03\x20\x40\x00" + sixteen + sixteen,
		"sixteen, and nulls":               "\x03\x18\x20\x00\x10\x01" + sixteen,
		"one too few":                      head + sixteen,
		"one too many":                     head + seventeen() + "\x01r",
		"one that is too long":             head + sixteen + "\x29" + long,
		"the first is too long":            head + "\x29" + long + seventeen()[2:],
		"a length that is too long":        head + sixteen + "\x81\x00q",
		"a length that does not end":       head + sixteen + "\x81",
		"one's bytes lack":                 head + sixteen + "\x02q",
		"one of 2^63 bytes":                head + sixteen + "\x80\x80\x80\x80\x80\x80\x80\x80\x80\x01q",
		"a byte behind":                    head + seventeen() + "\x00",
		"a dictionary ahead":               head + "\x00" + seventeen(),
		"texts of a form of Ints":          "\x01\x11\x22\x00" + seventeen(),
		"texts of a form of dictionaries":  "\x02\x11\x22\x00" + seventeen(),
		"a text of a null":                 "\x03\x11\x22\x01" + seventeen(),
		"numbers that stand in for texts":  head + strings.Repeat("\x0a", 17),
		"how many cells is one too little": "\x03\x10\x20\x00" + seventeen(),
	} {
		refused(t, name, s)
	}
}

// sorts answers columns of each form, with nulls and without.
func sorts() map[string]string {
	var out = map[string]string{}
	for _, c := range []struct {
		name string
		kind int
		l    []api.Cell
	}{
		{"no Ints", api.Int, nil}, {"no Texts", api.Text, nil},
		{"nulls of Ints", api.Int, times(11, null)}, {"nulls of Texts", api.Text, times(11, null)},
		{"Ints", api.Int, nums(5, -700, 0, last, first, 5)}, {"Ints and nulls", api.Int, withNulls(nums(5, -700, 0, last, first, 5), 0, 2, 2, 9)},
		{"one text", api.Text, strs("ab")}, {"one text often", api.Text, times(12, str("ab"))},
		{"a dictionary", api.Text, strs("b", "a", "", "abc", "b", "b")}, {"a dictionary and nulls", api.Text, withNulls(strs("b", "a", "", "abc", "b", "b"), 1, 4, 8)},
		{"a dictionary of sixteen", api.Text, numbered(16)}, {"runs of places", api.Text, slices.Concat(times(9, str("b")), strs("a", "c"), times(8, null), times(8, str("c")))},
		{"plain texts", api.Text, numbered(17)}, {"plain texts and nulls", api.Text, withNulls(append(numbered(17), strs("", "t00003", "\xff")...), 0, 1, 7, 30)},
	} {
		out[c.name] = otherEncode(c.kind, c.l)
	}
	return out
}

func TestCutBytes(t *testing.T) {
	for name, s := range sorts() {
		for k := range len(s) {
			refused(t, name+", cut off", s[:k])
			read(t, name+", begun later", s[k+1:])
		}
	}
}

func TestBytesBehind(t *testing.T) {
	for name, s := range sorts() {
		for i := range 256 {
			refused(t, name+", a byte more", s+string([]byte{byte(i)}))
		}
		refused(t, name+", twice", s+s)
		refused(t, name+", eight bytes more", s+"\x00\x00\x00\x00\x00\x00\x00\x00")
	}
}

// read holds Open of s against the other reckoning of it, and tells whether it is a column.
func read(t *testing.T, name, s string) bool {
	t.Helper()
	kind, l, ok := otherOpen(s)
	if !ok {
		refused(t, name, s)
		return false
	}
	c := opened(t, s)
	tells(t, name, c, kind, l)
	b, why := chunk.Encode(c.Kind(), c.Pick(upTo(c.Rows())))
	if string(b) != s || why != api.OK {
		t.Errorf("P15.2: %s: Open of %.60x is a column whose Encode is %.60x, %d", name, s, b, why)
	}
	return true
}

func TestEachByteTurned(t *testing.T) {
	columns := 0
	for name, s := range sorts() {
		if !read(t, name, s) {
			t.Errorf("%s: the other reckoning does not read it", name)
		}
		for at := range len(s) {
			for turn := 1; turn < 256; turn++ {
				b := []byte(s)
				b[at] ^= byte(turn)
				if read(t, name+", turned", string(b)) {
					columns++
				}
			}
		}
	}
	if columns < 1000 {
		t.Errorf("only %d of the turned ones are columns", columns)
	}
}

func TestBytesOfEveryKind(t *testing.T) {
	r := rand.New(rand.NewSource(15))
	alphabet := "\x00\x01\x02\x03\x04\x05\x10\x11\x12\x22a\x80\xff"
	columns := 0
	for range 200000 {
		b := []byte{byte(r.Intn(4)), byte(r.Intn(4)), 3, byte(r.Intn(8))}[:1+r.Intn(4)]
		for range r.Intn(8) {
			b = append(b, alphabet[r.Intn(len(alphabet))])
		}
		if read(t, "any bytes", string(b)) {
			columns++
		}
	}
	if columns < 1000 {
		t.Errorf("only %d are columns", columns)
	}
}

// anyColumn answers a column of any form.
func anyColumn(r *rand.Rand) (int, []api.Cell) {
	kind, n := 1+r.Intn(2), r.Intn(90)
	unlike := 1 + r.Intn(100)
	var l []api.Cell
	for len(l) < n {
		c := null
		if r.Intn(4) > 0 {
			c = str(strings.Repeat(string([]byte{byte('a' + r.Intn(unlike))}), r.Intn(3)))
			if kind == api.Int {
				c = num(int64(r.Uint64()) >> r.Intn(64))
			}
		}
		l = append(l, c)
		if r.Intn(20) == 0 {
			l = append(l, times(r.Intn(20), c)...)
		}
	}
	return kind, l
}

func TestColumnsOfEveryKind(t *testing.T) {
	r := rand.New(rand.NewSource(16))
	count := [4]int{}
	for range 500 {
		kind, l := anyColumn(r)
		holds(t, "any column", kind, l)
		s := otherEncode(kind, l)
		count[s[0]]++
		read(t, "any column", s)
		b := []byte(s)
		b[r.Intn(len(b))] = byte(r.Intn(256))
		read(t, "any column, a byte turned", string(b))
		at := r.Intn(len(s))
		read(t, "any column, a byte less", s[:at]+s[at+1:])
		read(t, "any column, a byte between", s[:at]+string(b[:1])+s[at:])
	}
	if min(count[1], count[2], count[3]) < 50 {
		t.Errorf("only %v of each form", count)
	}
}

func TestPlaces(t *testing.T) {
	for name, c := range map[string]struct {
		kind int
		l    []api.Cell
	}{
		"Ints": {api.Int, withNulls(nums(5, 6, 7), 1)}, "a dictionary": {api.Text, withNulls(strs("b", "a", "b"), 1)},
		"plain texts": {api.Text, withNulls(numbered(17), 3)}, "nulls": {api.Int, times(3, null)}, "none": {api.Text, nil}, "no Ints": {api.Int, nil},
	} {
		n := len(c.l)
		at := func(i int) api.Cell {
			if i < 0 || i >= n {
				return null
			}
			return c.l[i]
		}
		for _, places := range [][]int{nil, {}, {0}, {n - 1}, {n}, {n + 1}, {-1}, {math.MinInt, math.MaxInt}, {0, 0, 0}, {n - 1, 0, n - 1, 1, -1, 1, n, 2}, {1, 1 << 32, 1<<32 + 1, 2}, upTo(n + 3)} {
			given := append(slices.Clone(places), 0, 1, 2)
			var want []api.Cell
			for _, i := range places {
				want = append(want, at(i))
			}
			x := open(t, c.kind, c.l)
			if got := x.Pick(given[:len(places)]); !slices.Equal(got, want) {
				t.Errorf("P15.2: %s: Pick(%v): %v, want %v", name, places, got, want)
			}
			if !slices.Equal(given, append(slices.Clone(places), 0, 1, 2)) {
				t.Errorf("R2: %s: Pick changed its places: %v", name, given)
			}
			for i, place := range places {
				if got := x.Cell(place); got != want[i] {
					t.Errorf("P15.2: %s: Cell(%d): %v, want %v", name, place, got, want[i])
				}
			}
		}
	}
}

func TestDict(t *testing.T) {
	for name, c := range map[string]struct {
		kind int
		l    []api.Cell
		want []string
		ok   bool
	}{
		"no Ints":         {api.Int, nil, nil, false},
		"Ints":            {api.Int, nums(1, 2), nil, false},
		"nulls of Ints":   {api.Int, times(3, null), nil, false},
		"no Texts":        {api.Text, nil, nil, true},
		"nulls of Texts":  {api.Text, times(3, null), nil, true},
		"one":             {api.Text, strs("a"), []string{"a"}, true},
		"an empty one":    {api.Text, strs("", ""), []string{""}, true},
		"some":            {api.Text, withNulls(strs("b", "\xff", "a", "b", ""), 2), []string{"", "a", "b", "\xff"}, true},
		"seventeen":       {api.Text, numbered(17), nil, false},
		"seventeen twice": {api.Text, slices.Repeat(numbered(17), 2), nil, false},
	} {
		x := open(t, c.kind, c.l)
		for range 2 {
			if d, ok := x.Dict(); !slices.Equal(d, c.want) || ok != c.ok {
				t.Errorf("P15.2: %s: Dict: %q, %v, want %q, %v", name, d, ok, c.want, c.ok)
			}
		}
	}
	if d, ok := open(t, api.Text, numbered(16)).Dict(); len(d) != 16 || d[0] != "t00000" || d[15] != "t00015" || !ok {
		t.Errorf("P15.2: a dictionary of sixteen: %q, %v", d, ok)
	}
}

// rows reads "+" as true and "." as false.
func rows(s string) []bool {
	var out []bool
	for _, c := range s {
		out = append(out, c == '+')
	}
	return out
}

func TestWhere(t *testing.T) {
	ints := []api.Cell{num(first), num(-1), null, num(0), num(5), num(5), num(last)}
	texts := []api.Cell{str(""), str("a"), null, str("ab"), str("b"), str("a"), str("\xff")}
	many := append(slices.Clone(texts), numbered(17)...)
	for _, c := range []struct {
		p           api.Pred
		ints, texts string
	}{
		{api.Pred{Kind: api.Less, N: first}, ".......", "......."},
		{api.Pred{Kind: api.Less, N: first + 1}, "+......", "......."},
		{api.Pred{Kind: api.Less, N: -1}, "+......", "......."},
		{api.Pred{Kind: api.Less, N: 0}, "++.....", "......."},
		{api.Pred{Kind: api.Less, N: 1}, "++.+...", "......."},
		{api.Pred{Kind: api.Less, N: 5}, "++.+...", "......."},
		{api.Pred{Kind: api.Less, N: 6}, "++.+++.", "......."},
		{api.Pred{Kind: api.Less, N: last}, "++.+++.", "......."},
		{api.Pred{Kind: api.Equal, N: first}, "+......", "......."},
		{api.Pred{Kind: api.Equal, N: 0}, "...+...", "......."},
		{api.Pred{Kind: api.Equal, N: 4}, ".......", "......."},
		{api.Pred{Kind: api.Equal, N: 5}, "....++.", "......."},
		{api.Pred{Kind: api.Equal, N: last}, "......+", "......."},
		{api.Pred{Kind: api.Is, S: ""}, ".......", "+......"},
		{api.Pred{Kind: api.Is, S: "a"}, ".......", ".+...+."},
		{api.Pred{Kind: api.Is, S: "ab"}, ".......", "...+..."},
		{api.Pred{Kind: api.Is, S: "aa"}, ".......", "......."},
		{api.Pred{Kind: api.Is, S: "\xff"}, ".......", "......+"},
		{api.Pred{Kind: api.In}, ".......", "......."},
		{api.Pred{Kind: api.In, Set: []string{"", "b"}}, ".......", "+...+.."},
		{api.Pred{Kind: api.In, Set: []string{"a", "ab", "c", "\xff"}}, ".......", ".+.+.++"},
		{api.Pred{Kind: api.In, Set: []string{"c", "x"}}, ".......", "......."},
		{api.Pred{Kind: api.Prefix, S: ""}, ".......", "++.++++"},
		{api.Pred{Kind: api.Prefix, S: "a"}, ".......", ".+.+.+."},
		{api.Pred{Kind: api.Prefix, S: "ab"}, ".......", "...+..."},
		{api.Pred{Kind: api.Prefix, S: "abc"}, ".......", "......."},
		{api.Pred{Kind: api.Prefix, S: "\xff"}, ".......", "......+"},
		{api.Pred{Kind: api.Null}, "..+....", "..+...."},
	} {
		c.p.Col = "x"
		for _, dicts := range []bool{true, false} {
			if got := open(t, api.Int, ints).Where(c.p, dicts); !slices.Equal(got, rows(c.ints)) {
				t.Errorf("P15.3: Where(%v, %v) of Ints: %v, want %s", c.p, dicts, got, c.ints)
			}
			if got := open(t, api.Text, texts).Where(c.p, dicts); !slices.Equal(got, rows(c.texts)) {
				t.Errorf("P15.3: Where(%v, %v) of a dictionary: %v, want %s", c.p, dicts, got, c.texts)
			}
			if got := open(t, api.Text, many).Where(c.p, dicts); !slices.Equal(got[:7], rows(c.texts)) {
				t.Errorf("P15.3: Where(%v, %v) of plain texts: %v, want %s", c.p, dicts, got, c.texts)
			}
		}
		asked(t, "Ints", open(t, api.Int, ints), c.p, ints)
		asked(t, "a dictionary", open(t, api.Text, texts), c.p, texts)
		asked(t, "plain texts", open(t, api.Text, many), c.p, many)
	}
}

// columns answers a column of each form, of no cells, and of nulls alone.
func columns() []struct {
	kind int
	l    []api.Cell
} {
	return []struct {
		kind int
		l    []api.Cell
	}{
		{api.Int, nil}, {api.Text, nil}, {api.Int, times(9, null)}, {api.Text, times(9, null)},
		{api.Int, withNulls(nums(5, 0, -3, 5, 7), 2, 5)}, {api.Text, withNulls(strs("b", "", "a", "b", "ab"), 2, 5)}, {api.Text, withNulls(append(numbered(17), strs("", "a", "ab")...), 0, 9)},
	}
}

func TestKindsThatAskNoCell(t *testing.T) {
	nulls := api.Pred{Kind: api.Null, Col: "x"}
	whole := []api.Pred{{Kind: api.Less, Col: "x", N: last}, {Kind: api.Prefix, Col: "x"}, nulls}
	var all []api.Pred
	for kind := api.All; kind <= api.Not; kind++ {
		all = append(all, api.Pred{Kind: kind}, api.Pred{Kind: kind, Kids: []api.Pred{nulls}}, api.Pred{Kind: kind, Kids: whole}, api.Pred{Kind: kind, Col: "x", N: last, Kids: whole},
			api.Pred{Kind: kind, Kids: []api.Pred{{Kind: api.Any}}}, api.Pred{Kind: kind, Kids: []api.Pred{{Kind: api.All}}})
	}
	for _, n := range []int64{first, -1, 0, 1, last} {
		all = append(all, api.Pred{Kind: api.Between, N: n, M: last}, api.Pred{Kind: api.Between, N: first, M: n}, api.Pred{Kind: api.Between, N: n, M: n, Col: "x"})
	}
	for _, kind := range []int{0, -1, 11, 12, 256 + api.Null, 1<<32 + api.Null, -api.Null, math.MinInt, math.MaxInt} {
		all = append(all, api.Pred{Kind: kind}, api.Pred{Kind: kind, Col: "x", N: last, S: "a", Set: []string{"", "a", "b"}, Kids: whole})
	}
	for _, c := range columns() {
		x := open(t, c.kind, c.l)
		for _, p := range all {
			asked(t, "a Kind that asks no cell", x, p, c.l)
			for _, dicts := range []bool{true, false} {
				if got := x.Where(p, dicts); len(got) != len(c.l) || slices.Contains(got, true) {
					t.Errorf("P15.3: Where(%v, %v): %v, want false for each of %d", p, dicts, got, len(c.l))
				}
			}
		}
	}
}

func TestPredicatesThatAreNotRight(t *testing.T) {
	kids := []api.Pred{{Kind: api.Null, Col: "x"}, {Kind: api.Less, Col: "x"}}
	deep := api.Pred{Kind: api.Null, Col: "x"}
	for range 40 {
		deep = api.Pred{Kind: api.Not, Kids: []api.Pred{deep}}
	}
	long := strings.Repeat("a", 41)
	for _, c := range columns() {
		x := open(t, c.kind, c.l)
		for kind := api.Less; kind <= api.Null; kind++ {
			for _, p := range []api.Pred{
				{}, {Col: "x", S: "a"}, {Col: "x", N: 5, S: "b", Set: []string{"a", "b"}}, {Col: "x", N: 5, M: 3, S: "b", Set: []string{"", "ab"}, Kids: kids},
				{Col: "x", N: 6, S: "a", Kids: []api.Pred{deep}}, {Col: "x", Kids: slices.Repeat(kids, 2000)}, {Col: "", N: 5, S: "a", Set: []string{"a"}},
				{Col: "X", N: 5, S: "b", Set: []string{"b"}}, {Col: "not a name at all", N: 5, S: "", Set: []string{""}}, {Col: "\xff\x00", N: 7, S: "ab", Set: []string{"ab"}},
				{Col: "x", S: long, Set: []string{long}}, {Col: "x", S: "a", Set: []string{"b", "a", "b"}}, {Col: "x", Set: slices.Repeat([]string{"b", "t00003", long}, 50)},
			} {
				p.Kind = kind
				asked(t, "what may not be Right", x, p, c.l)
			}
		}
	}
}

// The Col that p names is of no weight: the row has its cell there.
func TestAnyColIsAsked(t *testing.T) {
	for _, c := range columns() {
		x := open(t, c.kind, c.l)
		for _, p := range near(num(5)) {
			want := otherWhere(p, c.l)
			for _, col := range []string{"", "y", "time", "\xff", strings.Repeat("x", 1000)} {
				p.Col = col
				asked(t, "any Col", x, p, c.l)
				if got := x.Where(p, true); !slices.Equal(got, want) {
					t.Errorf("P15.3: Where(%v): %v, want %v", p, got, want)
				}
			}
		}
	}
}

// anyPred answers a predicate of any Kind, Right or not.
func anyPred(r *rand.Rand, deep int) api.Pred {
	some := []string{"", "a", "aa", "b", "bb", "c", "zz"}
	p := api.Pred{Kind: r.Intn(13) - 1, Col: []string{"x", "", "Y"}[r.Intn(3)], N: r.Int63n(20) - 10, M: r.Int63n(20), S: some[r.Intn(7)]}
	for range r.Intn(4) {
		p.Set = append(p.Set, some[r.Intn(7)])
	}
	for deep > 1 && r.Intn(2) == 0 {
		p.Kids = append(p.Kids, anyPred(r, deep-1))
	}
	return p
}

func TestPredicatesOfEveryKind(t *testing.T) {
	r := rand.New(rand.NewSource(17))
	said := [2]int{}
	for range 3000 {
		kind, l := anyColumn(r)
		for i, c := range l {
			if c.Kind == api.Int {
				l[i].N %= 10
			}
		}
		c := open(t, kind, l)
		for range 10 {
			p := anyPred(r, 4)
			asked(t, "any predicate", c, p, l)
			for _, is := range c.Where(p, r.Intn(2) == 0) {
				if is {
					said[1]++
				} else {
					said[0]++
				}
			}
		}
	}
	if min(said[0], said[1]) < 10000 {
		t.Errorf("only %v", said)
	}
}

// endless answers predicates whose lists of Kids hold themselves, and some of more parts than a predicate may have.
func endless() []api.Pred {
	var out []api.Pred
	for kind := -1; kind < 12; kind++ {
		kids := make([]api.Pred, 2)
		for i := range kids {
			kids[i] = api.Pred{Kind: kind, Col: "x", Kids: kids}
		}
		tower := api.Pred{Kind: kind, Col: "x"}
		for range 1000 {
			tower = api.Pred{Kind: kind, Col: "x", Kids: []api.Pred{tower}}
		}
		out = append(out, kids[0], tower, api.Pred{Kind: kind, Col: "x", Kids: slices.Repeat([]api.Pred{{Kind: kind}}, 50000)})
	}
	return out
}

func TestCallsEnd(t *testing.T) {
	for _, c := range columns() {
		x := open(t, c.kind, c.l)
		for i, p := range endless() {
			for _, dicts := range []bool{true, false} {
				if got := x.Where(p, dicts); len(got) != len(c.l) {
					t.Errorf("R1: endless %d: %d rows of %d", i, len(got), len(c.l))
				}
			}
		}
		tells(t, "behind endless predicates", x, c.kind, c.l)
	}
}

// calls answers what each call of c tells, in words; places and predicates are the same each time.
func calls() []func(c *chunk.Chunk) string {
	return []func(c *chunk.Chunk) string{
		func(c *chunk.Chunk) string { return fmt.Sprint(c.Kind()) },
		func(c *chunk.Chunk) string { return fmt.Sprint(c.Rows()) },
		func(c *chunk.Chunk) string { return fmt.Sprintf("%q", fmt.Sprint(c.Cell(1), c.Cell(-1), c.Cell(99))) },
		func(c *chunk.Chunk) string { return fmt.Sprintf("%q", fmt.Sprint(c.Pick([]int{2, 0, 2, 77}))) },
		func(c *chunk.Chunk) string { return fmt.Sprint(c.Dict()) },
		func(c *chunk.Chunk) string {
			return fmt.Sprint(c.Where(api.Pred{Kind: api.Prefix, Col: "x", S: "a"}, true))
		},
		func(c *chunk.Chunk) string {
			return fmt.Sprint(c.Where(api.Pred{Kind: api.Equal, Col: "x", N: 5}, false))
		},
	}
}

// orders answers each order of n things.
func orders(n int) [][]int {
	if n == 0 {
		return [][]int{nil}
	}
	var out [][]int
	for _, o := range orders(n - 1) {
		for at := range n {
			out = append(out, slices.Insert(slices.Clone(o), at, n-1))
		}
	}
	return out
}

func TestEachOrderOfCalls(t *testing.T) {
	all := calls()
	for _, col := range columns() {
		b, _ := chunk.Encode(col.kind, col.l)
		var want []string
		for _, call := range all {
			want = append(want, call(opened(t, string(b))))
		}
		for _, order := range orders(len(all)) {
			c := opened(t, string(b))
			for i, k := range order {
				for _, again := range []int{k, k, order[0], order[i/2]} {
					if got := all[again](c); got != want[again] {
						t.Fatalf("R4: call %d of %d, order %v: %s, want %s", again, i, order, got, want[again])
					}
				}
			}
		}
	}
}

// What was read is not read again: a cell that is told once more makes nothing new.
func TestValuesAreReadOnce(t *testing.T) {
	for _, col := range columns() {
		c := open(t, col.kind, slices.Repeat(col.l, 20))
		c.Cell(0)
		n := testing.AllocsPerRun(50, func() {
			c.Cell(0)
			c.Cell(c.Rows() - 1)
		})
		if n > 0 {
			t.Errorf("Ways: a Cell that is told again makes %v things", n)
		}
	}
}

func TestBytesMayBeWrittenOverBehindAnOpen(t *testing.T) {
	for _, col := range columns() {
		b, _ := chunk.Encode(col.kind, col.l)
		for turn := range 256 {
			given := bytes.Clone(b)
			ahead, _ := chunk.Open(given)
			behind, _ := chunk.Open(given)
			tells(t, "ahead", ahead, col.kind, col.l)
			for i := range given {
				given[i] = byte(turn)
			}
			tells(t, "read ahead of what was written over", ahead, col.kind, col.l)
			tells(t, "read behind what was written over", behind, col.kind, col.l)
		}
	}
}

// What an Open was refused, and what other columns were asked, is of no weight.
func TestColumnsAreApart(t *testing.T) {
	a, b := open(t, api.Text, strs("a", "b")), open(t, api.Text, strs("c", "d", "c"))
	c, d := open(t, api.Text, strs("a", "b")), open(t, api.Int, nums(7))
	chunk.Open([]byte("\x02\x01\x03\x00\x02\x01a\x01b\x03\x00"))
	chunk.Encode(api.Text, nums(1))
	tells(t, "the first", a, api.Text, strs("a", "b"))
	tells(t, "the second", b, api.Text, strs("c", "d", "c"))
	tells(t, "the third", c, api.Text, strs("a", "b"))
	tells(t, "the fourth", d, api.Int, nums(7))
	tells(t, "the first again", a, api.Text, strs("a", "b"))
}

// spoil writes over all of l's memory, the room behind it too.
func spoil[T any](l []T, with T) {
	l = l[:cap(l)]
	for i := range l {
		l[i] = with
	}
}

func TestAnswersAreNewMemory(t *testing.T) {
	is := api.Pred{Kind: api.In, Col: "x", Set: []string{"a", "b"}}
	less := api.Pred{Kind: api.Less, Col: "x", N: 6}
	for _, col := range columns() {
		one, _ := chunk.Encode(col.kind, col.l)
		two, _ := chunk.Encode(col.kind, col.l)
		want := string(two)
		c, _ := chunk.Open(one)
		spoil(one, 0xaa)
		if string(two) != want {
			t.Errorf("R2: two answers of Encode share memory: %x", two)
		}
		places := upTo(len(col.l))
		cells, others := c.Pick(places), c.Pick(places)
		texts, _ := c.Dict()
		again, moreTexts := c.Dict()
		wheres := [][]bool{c.Where(is, true), c.Where(is, false), c.Where(less, true), c.Where(less, false), c.Where(api.Pred{}, true)}
		spoil(cells, str("spoilt"))
		spoil(texts, "spoilt")
		for _, l := range wheres {
			spoil(l, true)
		}
		spoil(places, 0)
		if !slices.Equal(others, col.l) {
			t.Errorf("R2: two answers of Pick share memory: %v", others)
		}
		if d, ok := unlike(col.kind, col.l); !slices.Equal(again, d) || ok != moreTexts {
			t.Errorf("R2: two answers of Dict share memory: %q", again)
		}
		tells(t, "behind what was written over", c, col.kind, col.l)
		for _, p := range []api.Pred{is, less, {}} {
			asked(t, "behind what was written over", c, p, col.l)
		}
		spoil(is.Set, "zz")
		is.Set = []string{"a", "b"}
		asked(t, "behind a Set that was written over", c, is, col.l)
		tells(t, "again", opened(t, want), col.kind, col.l)
	}
}

// An answer stays as it was, whatever is asked behind it and written into the answers of that.
func TestAnswersStay(t *testing.T) {
	asks := append(near(num(5)), near(str("a"))...)
	for _, col := range columns() {
		c := open(t, col.kind, col.l)
		d, ok := c.Dict()
		all, backwards := upTo(len(col.l)), upTo(len(col.l))
		slices.Reverse(backwards)
		cells := c.Pick(all)
		var said [][]bool
		for _, p := range asks {
			said = append(said, c.Where(p, true), c.Where(p, false))
		}
		for _, p := range asks {
			spoil(c.Where(p, true), true)
			spoil(c.Where(p, false), true)
		}
		spoil(c.Pick(backwards), str("spoilt"))
		other, _ := c.Dict()
		spoil(other, "spoilt")
		for i, got := range said {
			if want := otherWhere(asks[i/2], col.l); !slices.Equal(got, want) {
				t.Errorf("R2: what Where(%v) answered is turned by what came behind it: %v, want %v", asks[i/2], got, want)
			}
		}
		if want, wantOk := unlike(col.kind, col.l); !slices.Equal(cells, col.l) || !slices.Equal(d, want) || ok != wantOk {
			t.Errorf("R2: what Pick and Dict answered is turned by what came behind it: %v, %q", cells, d)
		}
	}
}

func TestCellsMayBeWrittenOverBehindAnEncode(t *testing.T) {
	for _, col := range columns() {
		l := slices.Clone(col.l)
		b, _ := chunk.Encode(col.kind, l)
		spoil(l, api.Cell{Kind: 99, S: "spoilt"})
		if string(b) != otherEncode(col.kind, col.l) {
			t.Errorf("R2: Encode's answer turned with what was handed in: %x", b)
		}
	}
}

func TestNilAndEmptyAreTheSame(t *testing.T) {
	for _, l := range [][]byte{nil, {}} {
		if c, why := chunk.Open(l); c != nil || why != api.ErrForm {
			t.Errorf("R4: Open of nothing: %v, %d", c != nil, why)
		}
	}
	for _, col := range columns() {
		c := open(t, col.kind, col.l)
		if a, b := c.Pick(nil), c.Pick([]int{}); len(a) != 0 || len(b) != 0 {
			t.Errorf("R4: Pick of no places: %v, %v", a, b)
		}
		for _, p := range []api.Pred{{Kind: api.In, Col: "x"}, {Kind: api.In, Col: "x", Set: []string{}, Kids: []api.Pred{}}, {Kind: api.All}, {Kind: api.Null, Kids: []api.Pred{}}} {
			asked(t, "nil and empty lists", c, p, col.l)
		}
	}
}

func FuzzOpen(f *testing.F) {
	for _, s := range sorts() {
		f.Add([]byte(s), int64(5), "a")
	}
	f.Fuzz(func(t *testing.T, b []byte, n int64, s string) {
		if len(b) > 2048 || !read(t, "any bytes", string(b)) {
			return
		}
		kind, l, _ := otherOpen(string(b))
		if len(l) > 2048 {
			return
		}
		c := opened(t, string(b))
		for _, p := range append(near(num(n)), near(str(s))...) {
			asked(t, "any bytes", c, p, l)
		}
		holds(t, "any bytes", kind, l)
	})
}

func ExampleOpen() {
	b, _ := chunk.Encode(api.Text, []api.Cell{{Kind: api.Text, S: "red"}, {}, {Kind: api.Text, S: "blue"}, {Kind: api.Text, S: "red"}})
	c, why := chunk.Open(b)
	fmt.Println(why == api.OK, c.Kind() == api.Text, c.Rows())
	fmt.Println(c.Cell(2).S, len(c.Pick([]int{3, 0})))
	fmt.Println(c.Dict())
	fmt.Println(c.Where(api.Pred{Kind: api.Is, Col: "color", S: "red"}, true))
	// Output:
	// true true 4
	// blue 2
	// [blue red] true
	// [true false false true]
}
