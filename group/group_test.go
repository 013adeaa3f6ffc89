package group_test

import (
	"bytes"
	"encoding/binary"
	"encoding/hex"
	"fmt"
	"hash/crc32"
	"math"
	mathbits "math/bits"
	"math/rand"
	"slices"
	"strings"
	"testing"

	"columbarium/api"
	"columbarium/bloom"
	"columbarium/chunk"
	"columbarium/delta"
	"columbarium/group"
	"columbarium/prune"
	"columbarium/row"
	"columbarium/ticks"
	"columbarium/varint"
	"columbarium/zone"
)

const room = 8 // items behind a list's length

func at(time int64, seq int, cells ...api.Cell) api.Row {
	return api.Row{Time: time, Seq: seq, Cells: cells}
}

func num(col string, n int64) api.Cell { return api.Cell{Col: col, Kind: api.Int, N: n} }

func str(col, s string) api.Cell { return api.Cell{Col: col, Kind: api.Text, S: s} }

// letters answers n names that rise, from a on.
func letters(n int) []string {
	var out []string
	for i := range n {
		out = append(out, string(rune('a'+i)))
	}
	return out
}

// bare answers n rows without cells.
func bare(n int) []api.Row {
	var out []api.Row
	for i := range n {
		out = append(out, at(int64(10*i), i))
	}
	return out
}

func cloned(l []api.Row) []api.Row {
	out := slices.Clone(l)
	for i := range out {
		out[i].Cells = slices.Clone(out[i].Cells)
	}
	return out
}

func same(a, b []api.Row) bool {
	return slices.EqualFunc(a, b, func(a, b api.Row) bool {
		return a.Time == b.Time && a.Seq == b.Seq && slices.Equal(a.Cells, b.Cells)
	})
}

func filledRow(r api.Row) api.Row {
	cells := slices.Clone(r.Cells)
	for i := range room {
		cells = append(cells, []api.Cell{num("zz", 7), str("zzz", "spare"), {Kind: 99}, num("a", 1)}[i%4])
	}
	r.Cells = cells[:len(r.Cells)]
	return r
}

// filled answers l with rows and cells in the room behind it that would turn an answer, or make a refusal, if they were read.
func filled(l []api.Row) []api.Row {
	var out []api.Row
	for _, r := range l {
		out = append(out, filledRow(r))
	}
	for i := range room {
		out = append(out, filledRow(at(int64(i), -i, num("Z", 1))))
	}
	return out[:len(l)]
}

func untouched(t *testing.T, given, l []api.Row) {
	t.Helper()
	whole := func(l []api.Row, n int) []api.Row {
		out := slices.Clone(l[:n])
		for i, r := range out {
			out[i].Cells = r.Cells[:len(r.Cells)+room]
		}
		return out
	}
	if n := len(l) + room; !same(whole(given, n), whole(filled(l), n)) {
		t.Errorf("R2: rows that were handed in were changed: %.200v", given[:n])
	}
}

// another is the bytes of a group.
var another = partsOf(bare(1)).spell()

// filledBytes answers s's bytes with another group's behind them.
func filledBytes(s string) []byte {
	b := append([]byte(s), another...)
	return b[:len(s)]
}

func untouchedBytes(t *testing.T, b []byte, s string) {
	t.Helper()
	if string(b[:len(s)+len(another)]) != s+another {
		t.Errorf("R2: bytes that were handed in as %.60x were changed", s)
	}
}

// otherCols is another reckoning of the columns of rows that are a group's.
func otherCols(l []api.Row) []api.Col {
	kinds := map[string]int{}
	for _, r := range l {
		for _, c := range r.Cells {
			kinds[c.Col] = c.Kind
		}
	}
	var out []api.Col
	for name, kind := range kinds {
		out = append(out, api.Col{Name: name, Kind: kind})
	}
	slices.SortFunc(out, func(a, b api.Col) int { return strings.Compare(a.Name, b.Name) })
	return out
}

// cellsOf answers each row's cell of that name, or a null.
func cellsOf(l []api.Row, name string) []api.Cell {
	out := make([]api.Cell, len(l))
	for i, r := range l {
		for _, c := range r.Cells {
			if c.Col == name {
				out[i] = c
			}
		}
	}
	return out
}

func textsOf(l []api.Cell) []string {
	var out []string
	for _, c := range l {
		if c.Kind == api.Text {
			out = append(out, c.S)
		}
	}
	return out
}

func timesOf(l []api.Row) []int64 {
	var out []int64
	for _, r := range l {
		out = append(out, r.Time)
	}
	return out
}

func seqsOf(l []api.Row) []int64 {
	var out []int64
	for _, r := range l {
		out = append(out, int64(r.Seq))
	}
	return out
}

// otherStats is another reckoning of what Stats tells of l.
func otherStats(l []api.Row) prune.Stats {
	s := prune.Stats{Rows: len(l), Lo: math.MaxInt64, Hi: math.MinInt64}
	for _, r := range l {
		s.Lo, s.Hi = min(s.Lo, r.Time), max(s.Hi, r.Time)
	}
	for _, c := range otherCols(l) {
		cells := cellsOf(l, c.Name)
		s.Zones = append(s.Zones, prune.Zone{Col: c.Name, Zone: zone.Build(c.Kind, cells)})
		if c.Kind == api.Text {
			s.Blooms = append(s.Blooms, prune.Bloom{Col: c.Name, Filter: bloom.Build(textsOf(cells))})
		}
	}
	return s
}

func sameBloom(a, b prune.Bloom) bool {
	return a.Col == b.Col && a.Filter.Bits == b.Filter.Bits && bytes.Equal(a.Filter.B, b.Filter.B)
}

func sameStats(a, b prune.Stats) bool {
	return a.Rows == b.Rows && a.Lo == b.Lo && a.Hi == b.Hi && slices.Equal(a.Zones, b.Zones) && slices.EqualFunc(a.Blooms, b.Blooms, sameBloom)
}

func sameIndex(a, b ticks.Index) bool {
	return a.Rows == b.Rows && a.Last == b.Last && slices.Equal(a.At, b.At)
}

// otherWhy is another reckoning of what Write says of l.
func otherWhy(l []api.Row) api.Errno {
	if len(l) < 1 || len(l) > 16 {
		return api.ErrMany
	}
	for _, r := range l {
		if !row.Right(r) {
			return api.ErrArg
		}
	}
	for i, b := range l[1:] {
		if a := l[i]; a.Time > b.Time || a.Time == b.Time && a.Seq >= b.Seq {
			return api.ErrForm
		}
	}
	cols := otherCols(l)
	for _, r := range l {
		for _, c := range r.Cells {
			if !slices.Contains(cols, api.Col{Name: c.Col, Kind: c.Kind}) {
				return api.ErrKind
			}
		}
	}
	if len(cols) > 12 {
		return api.ErrKind
	}
	return api.OK
}

// sealed frames s as block does, by the library.
func sealed(s string) string {
	out := binary.LittleEndian.AppendUint32(nil, uint32(len(s)))
	out = binary.LittleEndian.AppendUint32(out, ^uint32(len(s)))
	out = append(out, s...)
	return string(binary.LittleEndian.AppendUint32(out, crc32.Checksum([]byte(s), crc32.MakeTable(crc32.Castagnoli))))
}

// bodies answers what the frames of s had.
func bodies(s string) ([]string, bool) {
	var out []string
	for len(s) > 0 {
		if len(s) < 12 {
			return nil, false
		}
		n := int(binary.LittleEndian.Uint32([]byte(s)))
		if n > len(s)-12 || sealed(s[8:8+n]) != s[:12+n] {
			return nil, false
		}
		out, s = append(out, s[8:8+n]), s[12+n:]
	}
	return out, true
}

// number writes one as varint does, by the library.
func number(n uint64) string { return string(binary.AppendUvarint(nil, n)) }

func text(s string) string { return number(uint64(len(s))) + s }

// part is what stands of a column in a group's bytes.
type part struct {
	name, zone, filter, column string
}

// parts is what stands in a group's bytes.
type parts struct {
	index, count       string
	cols               []part
	times, seqs        string
	inHead, inKeys, on string // what stands behind the head, the keys, and all
}

// spell is another writing of a group.
func (p parts) spell() string {
	head := p.index + p.count
	for _, c := range p.cols {
		head += text(c.name) + c.zone
	}
	for _, c := range p.cols {
		head += c.filter
	}
	out := sealed(head+p.inHead) + sealed(p.times+p.seqs+p.inKeys)
	for _, c := range p.cols {
		out += sealed(c.column)
	}
	return out + p.on
}

// columnOf answers what stands of a column with such cells.
func columnOf(name string, kind int, cells []api.Cell) part {
	z, _ := zone.Encode(zone.Build(kind, cells))
	c, _ := chunk.Encode(kind, cells)
	out := part{name: name, zone: string(z), column: string(c)}
	if kind == api.Text {
		f, _ := bloom.Encode(bloom.Build(textsOf(cells)))
		out.filter = string(f)
	}
	return out
}

// partsOf answers what stands in the bytes of l's group; l need not be one.
func partsOf(l []api.Row) parts {
	cols := otherCols(l)
	p := parts{count: number(uint64(len(cols)))}
	p.index = indexOf(timesOf(l))
	for _, c := range cols {
		p.cols = append(p.cols, columnOf(c.Name, c.Kind, cellsOf(l, c.Name)))
	}
	p.times, p.seqs = string(delta.Encode(timesOf(l))), string(delta.Encode(seqsOf(l)))
	return p
}

func indexOf(times []int64) string {
	x, _ := ticks.Build(times)
	b, _ := ticks.Encode(x)
	return string(b)
}

// otherRead is another reckoning of Read: what is read loosely is written again.
func otherRead(s string) ([]api.Row, bool) {
	all, ok := bodies(s)
	if !ok || len(all) < 2 {
		return nil, false
	}
	names, ok := namesOf([]byte(all[0]))
	if !ok || len(names) != len(all)-2 {
		return nil, false
	}
	keys := []byte(all[1])
	times, end, why := delta.Decode(keys, 0, 16)
	if why != api.OK {
		return nil, false
	}
	seqs, _, why := delta.Decode(keys, end, 16)
	if why != api.OK || len(times) != len(seqs) {
		return nil, false
	}
	l := make([]api.Row, len(times))
	for i := range l {
		l[i] = at(times[i], int(seqs[i]))
	}
	for i, name := range names {
		c, why := chunk.Open([]byte(all[2+i]))
		if why != api.OK {
			return nil, false
		}
		for j := range l {
			if cell := c.Cell(j); cell.Kind != 0 {
				cell.Col = name
				l[j].Cells = append(l[j].Cells, cell)
			}
		}
	}
	if otherWhy(l) != api.OK || partsOf(l).spell() != s {
		return nil, false
	}
	return l, true
}

func namesOf(head []byte) ([]string, bool) {
	_, end, why := ticks.Decode(head, 0)
	if why != api.OK {
		return nil, false
	}
	n, end, why := varint.Get(head, end)
	if why != api.OK || n > 12 {
		return nil, false
	}
	var out []string
	for range n {
		var name string
		name, end, why = varint.GetText(head, end, 12)
		if why != api.OK {
			return nil, false
		}
		_, end, why = zone.Decode(head, end)
		if why != api.OK {
			return nil, false
		}
		out = append(out, name)
	}
	return out, true
}

// opened answers the group of s's bytes, and writes over them behind the Read.
func opened(t *testing.T, s string) *group.Group {
	t.Helper()
	b := filledBytes(s)
	g, why := group.Read(b)
	if why != api.OK || g == nil {
		t.Fatalf("P16.1: Read(%.60x): %d", s, why)
	}
	untouchedBytes(t, b, s)
	spoil(b, 0x55)
	return g
}

// open answers the group of l's rows, and writes over them behind the Write.
func open(t *testing.T, l []api.Row) *group.Group {
	t.Helper()
	given := filled(l)
	b, why := group.Write(given)
	if why != api.OK {
		t.Fatalf("P16.1: Write(%.60v): %d", l, why)
	}
	for _, r := range given {
		spoil(r.Cells, str("spoilt", "spoilt"))
	}
	spoil(given, api.Row{})
	return opened(t, string(b))
}

// spoil writes over all of l's memory, the room behind it too.
func spoil[T any](l []T, with T) {
	l = l[:cap(l)]
	for i := range l {
		l[i] = with
	}
}

// refused fails unless Read answers nil and ErrForm.
func refused(t *testing.T, name, s string) {
	t.Helper()
	b := filledBytes(s)
	if g, why := group.Read(b); g != nil || why != api.ErrForm {
		t.Errorf("P16.1: Read(%.80x), %s: %v, %d, want nil, ErrForm", s, name, g != nil, why)
	}
	untouchedBytes(t, b, s)
}

// read fails unless Read says of s what the other reckoning does, and tells whether it is read.
func read(t *testing.T, name, s string) bool {
	t.Helper()
	l, ok := otherRead(s)
	if !ok {
		refused(t, name, s)
		return false
	}
	g := opened(t, s)
	if got := g.Rows(); !same(got, l) {
		t.Errorf("P16.3: %s: %.60v, want %.60v", name, got, l)
	}
	if b, why := group.Write(g.Rows()); string(b) != s || why != api.OK {
		t.Errorf("P16.1: %s: Write of what Read reads is %.60x, %d, want %.60x", name, b, why, s)
	}
	return true
}

// tells fails unless g tells l's rows.
func tells(t *testing.T, name string, g *group.Group, l []api.Row) {
	t.Helper()
	if got := g.Count(); got != len(l) {
		t.Errorf("P16.1: %s: Count %d, want %d", name, got, len(l))
	}
	if got, want := g.Stats(), otherStats(l); !sameStats(got, want) {
		t.Errorf("P16.1: %s: Stats %.300v, want %.300v", name, got, want)
	}
	if want, _ := ticks.Build(timesOf(l)); !sameIndex(g.Times(), want) {
		t.Errorf("P16.1: %s: Times %v, want %v", name, g.Times(), want)
	}
	if got := g.Rows(); !same(got, l) {
		t.Errorf("P16.3: %s: Rows %.300v, want %.300v", name, got, l)
	}
}

// holds holds Write of l, and all that the group tells that is read from it, against the other reckonings.
func holds(t *testing.T, name string, l []api.Row) {
	t.Helper()
	given := filled(l)
	b, why := group.Write(given)
	if want := partsOf(l).spell(); string(b) != want || why != api.OK {
		t.Errorf("P16.1: Write, %s: %.60x, %d, want %.60x", name, b, why, want)
		return
	}
	untouched(t, given, l)
	g := opened(t, string(b))
	tells(t, name, g, l)
	tells(t, name+", asked again", g, l)
	if !read(t, name, string(b)) {
		t.Errorf("%s: the other reckoning does not read it", name)
	}
}

// written fails unless Write of l seals what bodies spell.
func written(t *testing.T, name string, l []api.Row, bodies ...string) {
	t.Helper()
	want := ""
	for _, s := range bodies {
		b, err := hex.DecodeString(strings.ReplaceAll(s, " ", ""))
		if err != nil {
			t.Fatal(err)
		}
		want += sealed(string(b))
	}
	if b, why := group.Write(l); string(b) != want || why != api.OK {
		t.Errorf("P16.1: Write, %s: %x, %d, want %x", name, b, why, want)
	}
	tells(t, name, opened(t, want), l)
	holds(t, name, l)
}

// some answers groups of many sorts.
func some() [][]api.Row {
	wide := []api.Row{at(1, 1), at(2, 1), at(2, 2)}
	for i, name := range letters(12) {
		wide[i/8].Cells = append(wide[i/8].Cells, []api.Cell{num(name, int64(i)-5), str(name, "t"+name)}[i%2])
	}
	full := bare(16)
	for i := range full {
		full[i].Cells = []api.Cell{num("n", int64(i%3)-1), str("s", fmt.Sprintf("t%02d", 7*i%16))}
	}
	return [][]api.Row{
		bare(1), bare(16),
		{at(5, 300, num("x", -2), str("y", "ab"))},
		{at(3, 9, str("s", "b"), num("x", 4)), at(5, 0), at(5, 2, str("s", "ab")), at(7, 1, str("s", ""), num("x", -1)), at(7, 4, str("s", "abc"), num("x", 4))},
		{at(-api.MaxTime, 1<<30, num("a", math.MinInt64), str("t", "")), at(api.MaxTime, 0, num("a", math.MaxInt64), str("t", strings.Repeat("\xff", 40)))},
		{at(-1, 0), at(-1, 1, num("only", 0)), at(-1, 2), at(0, 0, str("other", "\x00"))},
		wide, full,
	}
}

func TestTheChaptersRun(t *testing.T) {
	for _, l := range [][]api.Row{nil, {}} {
		if b, why := group.Write(l); len(b) != 0 || why != api.ErrMany {
			t.Errorf("P16.1: Write of none: %x, %d, want none, ErrMany", b, why)
		}
	}
}

func TestTheChaptersExamples(t *testing.T) {
	l := []api.Row{at(5, 7, num("x", 3))}
	if g := open(t, l); g.Count() != 1 || !same(g.Rows(), l) {
		t.Errorf("P16.3: one row: %v", g.Rows())
	}
	for _, second := range []api.Row{at(5, 7), at(5, 7, num("x", 3)), at(5, 7, num("y", 4))} {
		if b, why := group.Write([]api.Row{l[0], second}); len(b) != 0 || why != api.ErrForm {
			t.Errorf("P16.1: two rows with the same Time and Seq: %x, %d, want none, ErrForm", b, why)
		}
	}
}

func TestBytesByHand(t *testing.T) {
	f := bloom.Build([]string{"ab"})
	filter := hex.EncodeToString(f.B)
	written(t, "a row without cells", []api.Row{at(0, 0)}, "01 00 0100 00", "0100 0100")
	written(t, "a row with an Int", []api.Row{at(-1, 5, num("x", 3))}, "01 01 0101 01 0178 010100 06 06", "0101 010a", "01 01 0300 06")
	written(t, "a row with an Int and a Text", []api.Row{at(5, 300, num("x", -2), str("y", "ab"))},
		"01 0a 010a 02 0178 010100 03 03 0179 020100 026162 026162 40"+filter, "010a 01d804", "01 01 0300 03", "02 01 0300 01 026162 03")
	written(t, "the column of a Text ahead of an Int's", []api.Row{at(1, 0, str("a", "ab")), at(2, 1, num("b", 1))},
		"02 04 0102 02 0161 020201 026162 026162 0162 010201 02 02 40"+filter, "020202 020002", "02 02 0302 01 026162 03", "01 02 0301 02")
	written(t, "five rows", []api.Row{at(1, 0), at(2, 1), at(3, 2), at(4, 3), at(6, 5)}, "05 0c 02020a 00", "05020200 0002 05000200 0002")
}

func TestOneRow(t *testing.T) {
	for _, time := range []int64{0, 1, -1, 63, -64, 1 << 39, api.MaxTime, -api.MaxTime} {
		for _, seq := range []int{0, 1, 127, 128, 1<<30 - 1, 1 << 30} {
			holds(t, "a bare row", []api.Row{at(time, seq)})
			holds(t, "a row", []api.Row{at(time, seq, num("n", time), str("s", "x"))})
		}
	}
}

func TestAsManyRowsAsMayBe(t *testing.T) {
	for n := 1; n <= 16; n++ {
		holds(t, fmt.Sprint(n, " bare rows"), bare(n))
		like, unlike, sparse := bare(n), bare(n), bare(n)
		for i := range n {
			like[i].Cells = []api.Cell{num("a", 5), str("b", "ab")}
			unlike[i].Cells = []api.Cell{num("a", int64(i)-7), str("b", strings.Repeat("b", i)), str("c", string(rune('z'-i)))}
		}
		holds(t, fmt.Sprint(n, " rows with the same cells"), like)
		holds(t, fmt.Sprint(n, " rows with unlike cells"), unlike)
		for i := range n {
			one := cloned(sparse)
			one[i].Cells = []api.Cell{num("n", -9), str("s", "one")}
			holds(t, fmt.Sprint("cells in the row ", i, " of ", n), one)
			all := cloned(unlike)
			all[i].Cells = nil
			holds(t, fmt.Sprint("no cells in the row ", i, " of ", n), all)
		}
	}
}

func TestEachRowItsOwnColumn(t *testing.T) {
	l := bare(12)
	for i, name := range letters(12) {
		l[11-i].Cells = []api.Cell{[]api.Cell{num(name, int64(i)), str(name, name)}[i%2]}
	}
	holds(t, "each row a column of its own", l)
}

func TestWideRows(t *testing.T) {
	names := letters(12)
	for cells := range 9 {
		for from := 0; from+cells <= 12; from++ {
			one, many := at(1, 1), bare(16)
			for i, name := range names[from : from+cells] {
				c := []api.Cell{num(name, int64(-i)), str(name, strings.Repeat("x", i))}[i%2]
				one.Cells = append(one.Cells, c)
				for j := range many {
					many[j].Cells = append(many[j].Cells, c)
				}
			}
			holds(t, fmt.Sprint(cells, " cells in a row"), []api.Row{one})
			holds(t, fmt.Sprint(cells, " cells in each row"), many)
		}
	}
	long := []api.Row{at(0, 0), at(0, 1), at(0, 2)}
	for i, name := range names {
		long[i%2].Cells = append(long[i%2].Cells, str(strings.Repeat(name, 12), strings.Repeat("\x00", 40)))
	}
	holds(t, "twelve columns with long names", long)
}

func TestIntsAtTheirEnds(t *testing.T) {
	for _, n := range []int64{0, 1, -1, 63, -64, 64, 1 << 40, -1 << 40, math.MaxInt64, math.MaxInt64 - 1, math.MinInt64, math.MinInt64 + 1} {
		holds(t, "an Int alone", []api.Row{at(1, 1, num("n", n))})
		holds(t, "an Int among others", []api.Row{at(1, 1, num("n", -3)), at(2, 1), at(3, 1, num("n", n)), at(4, 1, num("n", 3), num("o", n))})
	}
}

func TestTextsOfAnyBytes(t *testing.T) {
	for i := range 256 {
		s := string([]byte{byte(i)})
		holds(t, "a text of one byte", []api.Row{at(1, 1, str("s", s)), at(2, 1, str("s", s+s)), at(3, 1), at(4, 1, str("s", ""), str("t", s))})
	}
	for _, n := range []int{0, 1, 39, 40} {
		long := strings.Repeat("\xfe", n)
		holds(t, "a long text", []api.Row{at(1, 1, str("s", long))})
		holds(t, "long texts", []api.Row{at(1, 1, str("s", long)), at(1, 2, str("s", "m")), at(1, 3, str("s", long), str("t", long))})
	}
}

// A group has as many rows as a dictionary has texts: more of them are in several columns.
func TestUnlikeTexts(t *testing.T) {
	for n := 1; n <= 16; n++ {
		l := bare(16)
		for i := range l {
			for j, name := range letters(8) {
				l[i].Cells = append(l[i].Cells, str(name, fmt.Sprintf("%d-%d", j%3, i%n)))
			}
		}
		holds(t, fmt.Sprint(n, " unlike texts a column"), l)
	}
}

func TestTimesAndSeqs(t *testing.T) {
	l := bare(16)
	for i := range l {
		l[i].Time, l[i].Seq = -5, 3*i*i
	}
	holds(t, "rows of one Time", l)
	for i := range l {
		l[i].Time, l[i].Seq = int64(i/4), []int{0, 1, 1<<30 - 1, 1 << 30}[i%4]
	}
	holds(t, "rows of few Times", l)
	for i := range l {
		l[i].Time, l[i].Seq = int64(i*i*i)-1000, 1<<30-i
	}
	holds(t, "Seqs that fall as Times rise", l)
	for i := range l {
		l[i].Time = []int64{-api.MaxTime, api.MaxTime}[i/8]
		l[i].Seq = i % 8
	}
	holds(t, "Times at both ends", l)
	for i := range l {
		l[i].Time, l[i].Seq = int64(i-8)*(api.MaxTime/8), 0
	}
	holds(t, "far Times", l)
}

func TestGroupsOfManySorts(t *testing.T) {
	for i, l := range some() {
		holds(t, fmt.Sprint("sort ", i), l)
	}
}

// wrong answers rows that are not Right, one for each way.
func wrong() []api.Row {
	long, nine := str("s", strings.Repeat("x", 41)), at(1, 1)
	for _, name := range letters(9) {
		nine.Cells = append(nine.Cells, num(name, 1))
	}
	return []api.Row{
		at(api.MaxTime+1, 1), at(-api.MaxTime-1, 1), at(math.MaxInt64, 1), at(math.MinInt64, 1),
		at(1, -1), at(1, 1<<30+1), at(1, math.MinInt), at(1, math.MaxInt), nine,
		at(1, 1, num("", 1)), at(1, 1, num("A", 1)), at(1, 1, num("a1", 1)), at(1, 1, num("\xff", 1)), at(1, 1, num(strings.Repeat("a", 13), 1)),
		at(1, 1, num("b", 1), num("a", 1)), at(1, 1, num("a", 1), num("a", 1)), at(1, 1, num("a", 1), str("a", "x")), at(1, 1, num("a", 1), num("c", 1), num("b", 1)),
		at(1, 1, api.Cell{Col: "a"}), at(1, 1, api.Cell{Col: "a", Kind: 3}), at(1, 1, api.Cell{Col: "a", Kind: -1}), at(1, 1, api.Cell{Col: "a", Kind: 1<<32 + 1}), at(1, 1, api.Cell{Col: "a", Kind: math.MinInt}),
		at(1, 1, api.Cell{Col: "a", Kind: api.Int, S: "s"}), at(1, 1, api.Cell{Col: "a", Kind: api.Text, N: 1}), at(1, 1, long), at(1, 1, num("a", 1), long), at(1, 1, str("s", strings.Repeat("y", 4000))),
	}
}

// refuses fails unless Write refuses l so.
func refuses(t *testing.T, name string, l []api.Row, want api.Errno) {
	t.Helper()
	given := filled(l)
	if b, why := group.Write(given); len(b) != 0 || why != want {
		t.Errorf("P16.1: Write, %s: %.60x, %d, want none, %d", name, b, why, want)
	}
	untouched(t, given, l)
	if got := otherWhy(l); got != want {
		t.Errorf("%s: the other reckoning says %d, want %d", name, got, want)
	}
}

func TestTooManyRows(t *testing.T) {
	holds(t, "sixteen", bare(16))
	for _, n := range []int{17, 18, 32, 100, 4096, 1 << 17} {
		refuses(t, fmt.Sprint(n, " rows"), bare(n), api.ErrMany)
	}
	refuses(t, "many zero rows", make([]api.Row, 17), api.ErrMany)
}

func TestRowsThatAreNotRight(t *testing.T) {
	for i, r := range wrong() {
		name := fmt.Sprint("the way ", i)
		for _, n := range []int{1, 2, 3, 16} {
			for place := range n {
				l := bare(n)
				l[place] = r
				refuses(t, fmt.Sprint(name, " at ", place, " of ", n), l, api.ErrArg)
				l[place].Time, l[place].Seq = int64(10*place), place
				if otherWhy(l) == api.ErrArg {
					refuses(t, fmt.Sprint(name, " in its order, at ", place, " of ", n), l, api.ErrArg)
				}
			}
		}
	}
}

func TestRowsThatDoNotRise(t *testing.T) {
	for _, n := range []int{2, 3, 16} {
		for place := 1; place < n; place++ {
			twice, swapped, fallen := bare(n), bare(n), bare(n)
			twice[place] = twice[place-1]
			swapped[place], swapped[place-1] = swapped[place-1], swapped[place]
			fallen[place].Time = fallen[place-1].Time
			fallen[place].Seq = fallen[place-1].Seq - 1
			refuses(t, fmt.Sprint("a row twice, at ", place, " of ", n), twice, api.ErrForm)
			refuses(t, fmt.Sprint("two rows the other way, at ", place, " of ", n), swapped, api.ErrForm)
			if place > 1 {
				refuses(t, fmt.Sprint("a Seq that falls, at ", place, " of ", n), fallen, api.ErrForm)
			}
			last := slices.Concat(bare(n)[1:], bare(1))
			refuses(t, "the first row behind the last", last, api.ErrForm)
			risen := bare(n)
			risen[place].Time = risen[place-1].Time
			holds(t, "a Seq that rises", risen)
		}
	}
	refuses(t, "a lower Time, a higher Seq", []api.Row{at(1, 1), at(0, 2)}, api.ErrForm)
	refuses(t, "Times from end to end", []api.Row{at(api.MaxTime, 0), at(-api.MaxTime, 1)}, api.ErrForm)
	refuses(t, "Seqs from end to end", []api.Row{at(0, 1<<30), at(0, 0)}, api.ErrForm)
	refuses(t, "rows with cells", []api.Row{at(1, 1, num("a", 1)), at(1, 1, num("a", 2))}, api.ErrForm)
	holds(t, "a higher Time, a lower Seq", []api.Row{at(0, 2), at(1, 1)})
}

func TestColumnsOfTwoKinds(t *testing.T) {
	for _, n := range []int{2, 3, 16} {
		for i := range n {
			for j := range n {
				if i == j {
					continue
				}
				l := bare(n)
				l[i].Cells, l[j].Cells = []api.Cell{num("x", 1)}, []api.Cell{str("x", "a")}
				refuses(t, fmt.Sprint("an Int at ", i, ", a Text at ", j), l, api.ErrKind)
				l[j].Cells[0].Col = "y"
				holds(t, "an Int and a Text of two names", l)
				l[j].Cells = []api.Cell{num("a", 1), num("w", 1), str("x", "")}
				refuses(t, "among other cells", l, api.ErrKind)
			}
		}
	}
}

func TestTooManyColumns(t *testing.T) {
	names := letters(14)
	for n := 9; n <= 14; n++ {
		two, many := []api.Row{at(1, 1), at(2, 2)}, bare(n)
		for i, name := range names[:n] {
			two[i%2].Cells = append(two[i%2].Cells, num(name, 1))
			many[i].Cells = []api.Cell{str(name, "a")}
		}
		if n <= 12 {
			holds(t, fmt.Sprint(n, " columns in two rows"), two)
			holds(t, fmt.Sprint(n, " columns in many rows"), many)
			continue
		}
		refuses(t, fmt.Sprint(n, " columns in two rows"), two, api.ErrKind)
		refuses(t, fmt.Sprint(n, " columns in many rows"), many, api.ErrKind)
	}
}

// Of several that apply, the first that the chapter names.
func TestRefusalsAtOnce(t *testing.T) {
	clash := func(l []api.Row) []api.Row {
		l = cloned(l)
		l[0].Cells, l[1].Cells = []api.Cell{num("x", 1)}, []api.Cell{str("x", "a")}
		return l
	}
	wide := func(l []api.Row) []api.Row {
		l = cloned(l)
		for i, name := range letters(13) {
			l[i%2].Cells = append(l[i%2].Cells, num(name, 1))
		}
		return l
	}
	for _, r := range wrong() {
		for _, l := range [][]api.Row{append(bare(16), r), append([]api.Row{r}, bare(16)...), append([]api.Row{r}, bare(100)...), slices.Repeat([]api.Row{r}, 17)} {
			refuses(t, "too many, and one that is not Right", l, api.ErrMany)
		}
		for place := range 4 {
			falling := []api.Row{at(9, 9), at(8, 8), at(7, 7), at(7, 7)}
			falling[place] = r
			refuses(t, "what does not rise, and one that is not Right", falling, api.ErrArg)
			if place > 1 {
				clashing := clash(bare(4))
				clashing[place] = r
				refuses(t, "two Kinds, and one that is not Right", clashing, api.ErrArg)
				many := wide(bare(4))
				many[place] = r
				refuses(t, "many columns, and one that is not Right", many, api.ErrArg)
			}
		}
		refuses(t, "all of them", append(wide(clash([]api.Row{at(9, 9), at(9, 9)})), r), api.ErrArg)
	}
	down := bare(17)
	slices.Reverse(down)
	refuses(t, "too many that do not rise", down, api.ErrMany)
	refuses(t, "too many of two Kinds", clash(bare(17)), api.ErrMany)
	refuses(t, "too many with many columns", wide(bare(17)), api.ErrMany)
	for _, l := range [][]api.Row{{at(1, 1), at(1, 1)}, {at(2, 1), at(1, 1)}, {at(1, 1), at(2, 2), at(2, 2)}, {at(1, 2), at(1, 3), at(1, 1)}} {
		refuses(t, "what does not rise, of two Kinds", clash(l), api.ErrForm)
		refuses(t, "what does not rise, with many columns", wide(l), api.ErrForm)
	}
	refuses(t, "two Kinds, and many columns", append(wide(bare(2)), at(99, 1, str("a", "x"))), api.ErrKind)
}

func TestReadOfNothing(t *testing.T) {
	for _, b := range [][]byte{nil, {}, filledBytes("")} {
		if g, why := group.Read(b); g != nil || why != api.ErrForm {
			t.Errorf("P16.1: Read of no bytes: %v, %d, want nil, ErrForm", g != nil, why)
		}
	}
}

func TestACutIsTold(t *testing.T) {
	for _, l := range some() {
		s := partsOf(l).spell()
		for cut := range len(s) {
			// What was cut off stands in the room behind.
			b := []byte(s)
			if g, why := group.Read(b[:cut]); g != nil || why != api.ErrForm {
				t.Errorf("P16.1: %d bytes of %d: %v, %d, want nil, ErrForm", cut, len(s), g != nil, why)
			}
			if string(b) != s {
				t.Errorf("R2: bytes were changed by a Read of %d of them", cut)
			}
			refused(t, "a beginning that is cut off", s[cut+1:])
			refused(t, "a byte that lacks", s[:cut]+s[cut+1:])
		}
	}
}

func TestMoreBytesAreTold(t *testing.T) {
	for _, l := range some() {
		s := partsOf(l).spell()
		for i := range 256 {
			one := string([]byte{byte(i)})
			refused(t, "a byte more", s+one)
			refused(t, "a byte ahead", one+s)
		}
		refused(t, "the same again", s+s)
		for _, more := range []string{sealed(""), sealed("\x00"), sealed("\x01\x01\x03\x00\x06"), partsOf(bare(1)).spell()} {
			refused(t, "a part more", s+more)
			refused(t, "a part ahead", more+s)
		}
	}
}

func TestEachByteTurned(t *testing.T) {
	for _, l := range some() {
		s := partsOf(l).spell()
		b := []byte(s)
		for i := range b {
			for turn := 1; turn < 256; turn++ {
				b[i] ^= byte(turn)
				if g, why := group.Read(b); g != nil || why != api.ErrForm {
					t.Errorf("P16.1: the byte %d turned by %x: %v, %d, want nil, ErrForm", i, turn, g != nil, why)
				}
				b[i] ^= byte(turn)
			}
		}
		if string(b) != s {
			t.Error("R2: bytes were changed by Read")
		}
	}
}

// sealedAgain answers all as parts of a group, each with a sum of its own.
func sealedAgain(all []string) string {
	out := ""
	for _, s := range all {
		out += sealed(s)
	}
	return out
}

// What is turned ahead of the sums is told by what it says alone: some of it is another group's.
func TestEachByteTurnedBelowItsSum(t *testing.T) {
	done := [2]int{}
	for _, l := range some() {
		all, _ := bodies(partsOf(l).spell())
		for k, body := range all {
			for i := range len(body) {
				for turn := 1; turn < 256; turn++ {
					// Of long parts each bit alone: they are many bytes.
					if len(body) > 100 && mathbits.OnesCount(uint(turn)) > 1 {
						continue
					}
					b := []byte(body)
					b[i] ^= byte(turn)
					other := slices.Clone(all)
					other[k] = string(b)
					if read(t, fmt.Sprintf("the byte %d of the part %d, turned by %x", i, k, turn), sealedAgain(other)) {
						done[1]++
					} else {
						done[0]++
					}
				}
			}
		}
	}
	if done[0] < 10000 || done[1] < 1000 {
		t.Errorf("only %v", done)
	}
}

func TestPartsCutAndLonger(t *testing.T) {
	for _, l := range some() {
		all, _ := bodies(partsOf(l).spell())
		for k, body := range all {
			with := func(s string) string {
				other := slices.Clone(all)
				other[k] = s
				return sealedAgain(other)
			}
			for cut := range len(body) {
				refused(t, "a part cut off", with(body[:cut]))
				refused(t, "a part without its beginning", with(body[cut+1:]))
			}
			for i := range 256 {
				refused(t, "a part with a byte more", with(body+string([]byte{byte(i)})))
			}
			refused(t, "a part twice over", with(body+body))
			refused(t, "a part that lacks", sealedAgain(slices.Delete(slices.Clone(all), k, k+1)))
			refused(t, "a part twice", sealedAgain(slices.Insert(slices.Clone(all), k, body)))
		}
	}
}

// encoded answers what a lower layer gives, which does not refuse.
func encoded(b []byte, _ api.Errno) string { return string(b) }

// What another writer would write for the same rows is no Write's.
func TestOtherWriters(t *testing.T) {
	l := []api.Row{at(1, 0, num("n", 3), str("s", "b")), at(2, 1, str("s", "a"), num("x", 4)), at(3, 1), at(3, 2, num("n", -1)), at(4, 0, str("s", "a"), str("t", "q"))}
	nulls := make([]api.Cell, 5)
	s, n := cellsOf(l, "s"), cellsOf(l, "n")
	for _, c := range []struct {
		name string
		turn func(p *parts)
	}{
		{"a wider zone", func(p *parts) {
			p.cols[0].zone = encoded(zone.Encode(zone.Zone{Kind: api.Int, Rows: 5, Nulls: 3, MinN: -2, MaxN: 3}))
		}},
		{"a narrower zone", func(p *parts) {
			p.cols[0].zone = encoded(zone.Encode(zone.Zone{Kind: api.Int, Rows: 5, Nulls: 3, MinN: 3, MaxN: 3}))
		}},
		{"a zone with other nulls", func(p *parts) {
			p.cols[0].zone = encoded(zone.Encode(zone.Zone{Kind: api.Int, Rows: 5, Nulls: 2, MinN: -1, MaxN: 3}))
		}},
		{"a zone of more rows", func(p *parts) {
			p.cols[0].zone = encoded(zone.Encode(zone.Build(api.Int, append(slices.Clone(n), api.Cell{}))))
		}},
		{"a zone of Texts for Ints", func(p *parts) {
			p.cols[0].zone, p.cols[0].filter = p.cols[1].zone, p.cols[1].filter
		}},
		{"a zone of Ints for Texts", func(p *parts) { p.cols[1].zone = p.cols[0].zone }},
		{"a zone of Ints for Texts, without a filter", func(p *parts) { p.cols[1].zone, p.cols[1].filter = p.cols[0].zone, "" }},
		{"a filter with more bits", func(p *parts) {
			f := bloom.Filter{Bits: 128, B: make([]byte, 16)}
			p.cols[1].filter = encoded(bloom.Encode(f))
		}},
		{"a full filter", func(p *parts) {
			p.cols[1].filter = encoded(bloom.Encode(bloom.Filter{Bits: 64, B: bytes.Repeat([]byte{0xff}, 8)}))
		}},
		{"an empty filter", func(p *parts) { p.cols[1].filter = encoded(bloom.Encode(bloom.Build(nil))) }},
		{"a filter of one text more", func(p *parts) {
			p.cols[1].filter = encoded(bloom.Encode(bloom.Build([]string{"a", "b", "zebra"})))
		}},
		{"two filters the other way", func(p *parts) { p.cols[1].filter, p.cols[3-1].filter = p.cols[2].filter, p.cols[1].filter }},
		{"a filter of Ints", func(p *parts) { p.cols[0].filter = encoded(bloom.Encode(bloom.Build(nil))) }},
		{"without a filter", func(p *parts) { p.cols[1].filter = "" }},
		{"a filter more", func(p *parts) { p.inHead = p.cols[1].filter }},
		{"a byte more in the head", func(p *parts) { p.inHead = "\x00" }},
		{"a byte more behind the keys", func(p *parts) { p.inKeys = "\x00" }},
		{"keys twice", func(p *parts) { p.inKeys = p.times + p.seqs }},
		{"a part more", func(p *parts) { p.on = sealed("") }},
		{"a column of nulls more", func(p *parts) {
			p.count = "\x05"
			p.cols = append(p.cols, columnOf("z", api.Int, nulls))
		}},
		{"a column of nulls more, of Texts, ahead", func(p *parts) {
			p.count = "\x05"
			p.cols = slices.Insert(p.cols, 0, columnOf("a", api.Text, nulls))
		}},
		{"a column that the head does not count", func(p *parts) { p.cols = append(p.cols, columnOf("z", api.Int, n)) }},
		{"fewer columns than the head counts", func(p *parts) { p.cols = p.cols[:3] }},
		{"a count of two bytes", func(p *parts) { p.count = "\x84\x00" }},
		{"a count of no columns", func(p *parts) { p.count = "\x00" }},
		{"columns that fall", func(p *parts) { slices.Reverse(p.cols) }},
		{"two columns the other way", func(p *parts) { p.cols[0], p.cols[1] = p.cols[1], p.cols[0] }},
		{"two names the other way", func(p *parts) { p.cols[0].name, p.cols[1].name = p.cols[1].name, p.cols[0].name }},
		{"a column twice", func(p *parts) {
			p.count = "\x05"
			p.cols = slices.Insert(p.cols, 1, p.cols[1])
		}},
		{"one name twice", func(p *parts) { p.cols[1].name = p.cols[0].name }},
		{"a name that is none", func(p *parts) { p.cols[0].name = "N" }},
		{"no name", func(p *parts) { p.cols[0].name = "" }},
		{"a long name", func(p *parts) { p.cols[0].name = strings.Repeat("n", 13) }},
		{"a column of fewer cells", func(p *parts) { p.cols[0].column = encoded(chunk.Encode(api.Int, n[:4])) }},
		{"a column of more cells", func(p *parts) {
			p.cols[0].column = encoded(chunk.Encode(api.Int, append(slices.Clone(n), num("", 7))))
		}},
		{"a column with a null more", func(p *parts) {
			p.cols[0].column = encoded(chunk.Encode(api.Int, append(slices.Clone(n), api.Cell{})))
		}},
		{"a column of many cells", func(p *parts) { p.cols[0].column = encoded(chunk.Encode(api.Int, make([]api.Cell, 1<<16))) }},
		{"a column of no cells", func(p *parts) { p.cols[0].column = encoded(chunk.Encode(api.Int, nil)) }},
		{"a column of Texts for Ints", func(p *parts) { p.cols[0].column = p.cols[1].column }},
		{"a column of nulls of the other Kind", func(p *parts) { p.cols[0].column = encoded(chunk.Encode(api.Text, nulls)) }},
		{"a column of nulls", func(p *parts) { p.cols[0].column = encoded(chunk.Encode(api.Int, nulls)) }},
		{"plain texts", func(p *parts) {
			p.cols[1].column = "\x03\x05" + encoded(chunk.Encode(api.Text, s))[2:4] + "\x01b\x01a\x01a"
		}},
		{"a column that is none", func(p *parts) { p.cols[0].column = "\x09" }},
		{"an empty column", func(p *parts) { p.cols[0].column = "" }},
		{"an index of other times", func(p *parts) { p.index = indexOf([]int64{0, 2, 3, 3, 4}) }},
		{"an index with another last", func(p *parts) { p.index = indexOf([]int64{1, 2, 3, 3, 5}) }},
		{"an index of fewer rows", func(p *parts) { p.index = indexOf([]int64{1, 2, 3, 4}) }},
		{"an index of more rows", func(p *parts) { p.index = indexOf([]int64{1, 2, 3, 3, 4, 4}) }},
		{"an index of no rows", func(p *parts) { p.index = indexOf(nil) }},
		{"fewer Times", func(p *parts) { p.times = string(delta.Encode([]int64{1, 2, 3, 4})) }},
		{"more Times", func(p *parts) { p.times = string(delta.Encode([]int64{1, 2, 3, 3, 4, 4})) }},
		{"no Times", func(p *parts) { p.times = "\x00" }},
		{"fewer Seqs", func(p *parts) { p.seqs = string(delta.Encode([]int64{0, 1, 1, 2})) }},
		{"more Seqs", func(p *parts) { p.seqs = string(delta.Encode([]int64{0, 1, 1, 2, 0, 1})) }},
		{"no Seqs", func(p *parts) { p.seqs = "\x00" }},
		{"other Times that have the same index", func(p *parts) { p.times = string(delta.Encode([]int64{1, 3, 2, 3, 4})) }},
		{"a row twice", func(p *parts) { p.seqs = string(delta.Encode([]int64{0, 1, 2, 2, 0})) }},
		{"a Seq below 0", func(p *parts) { p.seqs = string(delta.Encode([]int64{-1, 1, 1, 2, 0})) }},
		{"a Seq above its bound", func(p *parts) { p.seqs = string(delta.Encode([]int64{0, 1, 1, 1<<30 + 1, 0})) }},
		{"a Seq that 32 bits do not bear", func(p *parts) { p.seqs = string(delta.Encode([]int64{1 << 32, 1, 1, 2, 0})) }},
		{"a Time above its bound", func(p *parts) {
			times := []int64{1, 2, 3, 3, api.MaxTime + 1}
			p.index, p.times = indexOf(times), string(delta.Encode(times))
		}},
		{"a Time below its bound", func(p *parts) {
			times := []int64{-api.MaxTime - 1, 2, 3, 3, 4}
			p.index, p.times = indexOf(times), string(delta.Encode(times))
		}},
	} {
		p := partsOf(l)
		c.turn(&p)
		refused(t, c.name, p.spell())
		if _, ok := otherRead(p.spell()); ok {
			t.Errorf("%s: the other reckoning reads it", c.name)
		}
	}
	if !read(t, "as it was", partsOf(l).spell()) {
		t.Error("P16.1: a group is not read")
	}
}

// What stands in bytes that are written as a group's are is still no group, if Write would refuse it.
func TestRowsThatAreNoGroupAreNotRead(t *testing.T) {
	thirteen := bare(13)
	for i, name := range letters(13) {
		thirteen[i].Cells = []api.Cell{num(name, 1)}
	}
	nine := bare(1)
	for _, name := range letters(9) {
		nine[0].Cells = append(nine[0].Cells, num(name, 1))
	}
	lists := [][]api.Row{nil, bare(17), bare(20), bare(100), thirteen, nine, {at(1, 1), at(1, 1)}, {at(1, 2), at(1, 1)}, {at(2, 1), at(1, 1)}}
	for _, r := range wrong() {
		lists = append(lists, []api.Row{r}, append(bare(1), r))
	}
	none := 0
	for i, l := range lists {
		// Some are written as other rows are, which are a group.
		if !read(t, fmt.Sprint("rows that are no group, ", i), partsOf(l).spell()) {
			none++
		}
	}
	if none < 50 {
		t.Errorf("only %d are no group", none)
	}
	refused(t, "rows that fall, with an index of others", func() string {
		p := partsOf([]api.Row{at(2, 1), at(1, 1)})
		p.index = indexOf([]int64{1, 2})
		return p.spell()
	}())
	for _, n := range []int{1 << 10, 1 << 20} {
		p := partsOf(bare(16))
		p.index = indexOf(timesOf(bare(n)))
		refused(t, "an index of many rows", p.spell())
	}
	for _, count := range []uint64{13, 1 << 20, 1 << 31, 1 << 32, 1 << 63, math.MaxUint64} {
		p := partsOf(bare(2))
		p.count = number(count)
		refused(t, "a great count of columns", p.spell())
		p.count, p.index = "\x00", "\x01\x00"+number(count)
		refused(t, "a great count of times", p.spell())
		p = partsOf(bare(2))
		p.times = number(count)
		refused(t, "a great count of Times", p.spell())
	}
}

func TestStatsByHand(t *testing.T) {
	l := []api.Row{at(3, 9, str("s", "b"), num("x", 4)), at(5, 0), at(5, 2, str("s", "ab")), at(7, 1, str("s", "b"), num("x", -1), num("z", 0))}
	s := open(t, l).Stats()
	if s.Rows != 4 || s.Lo != 3 || s.Hi != 7 {
		t.Errorf("P16.1: Rows %d, Lo %d, Hi %d, want 4, 3, 7", s.Rows, s.Lo, s.Hi)
	}
	zones := []prune.Zone{
		{Col: "s", Zone: zone.Zone{Kind: api.Text, Rows: 4, Nulls: 1, MinS: "ab", MaxS: "b"}},
		{Col: "x", Zone: zone.Zone{Kind: api.Int, Rows: 4, Nulls: 2, MinN: -1, MaxN: 4}},
		{Col: "z", Zone: zone.Zone{Kind: api.Int, Rows: 4, Nulls: 3}},
	}
	if !slices.Equal(s.Zones, zones) {
		t.Errorf("P16.1: Zones %v, want %v", s.Zones, zones)
	}
	filter := bloom.Build([]string{"b", "ab"})
	if len(s.Blooms) != 1 || !sameBloom(s.Blooms[0], prune.Bloom{Col: "s", Filter: filter}) {
		t.Errorf("P16.1: Blooms %v", s.Blooms)
	}
	s = open(t, bare(3)).Stats()
	if len(s.Zones) != 0 || len(s.Blooms) != 0 || s.Rows != 3 || s.Lo != 0 || s.Hi != 20 {
		t.Errorf("P16.1: Stats of bare rows: %v", s)
	}
	full := bare(16)
	for i := range full {
		full[i].Cells = []api.Cell{str("a", fmt.Sprint("t", i)), str("b", "same")}
	}
	s = open(t, full).Stats()
	if len(s.Blooms) != 2 || s.Blooms[0].Filter.Bits != 128 || s.Blooms[1].Filter.Bits != 64 {
		t.Errorf("P16.1: Blooms of sixteen texts and of one: %v", s.Blooms)
	}
}

func TestTimesByHand(t *testing.T) {
	l := bare(10)
	for i, want := range []ticks.Index{{Rows: 1, At: []int64{0}}, {Rows: 4, Last: 30, At: []int64{0}}, {Rows: 5, Last: 40, At: []int64{0, 40}}, {Rows: 10, Last: 90, At: []int64{0, 40, 80}}} {
		if got := open(t, l[:want.Rows]).Times(); !sameIndex(got, want) {
			t.Errorf("P16.1: case %d: Times %v, want %v", i, got, want)
		}
	}
}

// anyRow answers a row of a few columns; of the column k a cell is of the same Kind each time.
func anyRow(r *rand.Rand, time int64, seq int) api.Row {
	out := at(time, seq)
	for i, name := range letters(12) {
		if len(out.Cells) == 8 || r.Intn(3) > 0 {
			continue
		}
		if i%3 > 0 {
			out.Cells = append(out.Cells, num(name, []int64{r.Int63n(6) - 2, r.Int63() - r.Int63(), 0}[r.Intn(3)]))
		} else {
			out.Cells = append(out.Cells, str(name, anyText(r)))
		}
	}
	return out
}

func anyText(r *rand.Rand) string {
	if r.Intn(3) > 0 {
		return []string{"", "a", "ab", "abc", "b", "c"}[r.Intn(6)]
	}
	b := make([]byte, r.Intn(41))
	r.Read(b)
	return string(b)
}

// anyRows answers rows that are a group's.
func anyRows(r *rand.Rand) []api.Row {
	var out []api.Row
	time, seq := r.Int63n(1000)-500, r.Intn(100)
	for range 1 + r.Intn(16) {
		out = append(out, anyRow(r, time, seq))
		if step := r.Int63n(4); step > 0 {
			time, seq = time+step, r.Intn(100)
		} else {
			seq += 1 + r.Intn(1000)
		}
	}
	return out
}

func TestRowsOfEverySort(t *testing.T) {
	r := rand.New(rand.NewSource(16))
	for range 2000 {
		holds(t, "any rows", anyRows(r))
	}
}

// spoiltRows answers l with one or two things turned that may make it none.
func spoiltRows(r *rand.Rand, l []api.Row) []api.Row {
	l = cloned(l)
	for range 1 + r.Intn(2) {
		i, j := r.Intn(len(l)), r.Intn(len(l))
		switch r.Intn(7) {
		case 0:
			l[i] = l[j]
		case 1:
			l[i], l[j] = l[j], l[i]
		case 2:
			l[i] = wrong()[r.Intn(len(wrong()))]
		case 3:
			l = append(l, anyRows(r)...)
		case 4:
			l[i].Cells = []api.Cell{num([]string{"a", "b", "d"}[r.Intn(3)], 5)}
		case 5:
			l[i].Cells = []api.Cell{str([]string{"a", "b", "m"}[r.Intn(3)], "x")}
		case 6:
			l[i].Time += r.Int63n(5) - 2
		}
	}
	return l
}

func TestRefusalsOfEverySort(t *testing.T) {
	r := rand.New(rand.NewSource(61))
	said := map[api.Errno]int{}
	for range 5000 {
		l := spoiltRows(r, anyRows(r))
		why := otherWhy(l)
		said[why]++
		if why == api.OK {
			holds(t, "rows that were turned", l)
		} else {
			refuses(t, "rows that were turned", l, why)
		}
	}
	for _, why := range []api.Errno{api.OK, api.ErrMany, api.ErrArg, api.ErrForm, api.ErrKind} {
		if said[why] < 100 {
			t.Errorf("only %v", said)
		}
	}
}

// turned answers s with a byte turned, taken out, or laid between.
func turned(r *rand.Rand, s string) string {
	at := r.Intn(len(s) + 1)
	switch {
	case r.Intn(3) == 0:
		return s[:at] + string([]byte{byte(r.Intn(256))}) + s[at:]
	case at == len(s):
		return s + s[at/2:]
	case r.Intn(2) == 0:
		return s[:at] + s[at+1:]
	}
	return s[:at] + string([]byte{s[at] ^ byte(1<<r.Intn(8))}) + s[at+1:]
}

func TestBytesOfEverySort(t *testing.T) {
	r := rand.New(rand.NewSource(116))
	done := [2]int{}
	for range 20000 {
		l := anyRows(r)
		all, _ := bodies(partsOf(l).spell())
		for range 1 + r.Intn(2) {
			k := r.Intn(len(all))
			if r.Intn(8) == 0 {
				j := r.Intn(len(all))
				all[k], all[j] = all[j], all[k]
			} else {
				all[k] = turned(r, all[k])
			}
		}
		if read(t, "any bytes", sealedAgain(all)) {
			done[1]++
		} else {
			done[0]++
		}
	}
	for range 20000 {
		b := make([]byte, r.Intn(60))
		r.Read(b)
		read(t, "bytes of no sort", string(b))
		read(t, "sealed bytes of no sort", sealed(string(b))+sealed(string(b[len(b)/2:])))
	}
	if done[0] < 5000 || done[1] < 500 {
		t.Errorf("only %v", done)
	}
}

func FuzzRead(f *testing.F) {
	for _, l := range some() {
		all, _ := bodies(partsOf(l).spell())
		for len(all) < 4 {
			all = append(all, "")
		}
		f.Add([]byte(all[0]), []byte(all[1]), []byte(all[2]), []byte(all[3]), 4)
	}
	f.Fuzz(func(t *testing.T, head, keys, one, two []byte, n int) {
		all := []string{string(head), string(keys), string(one), string(two)}
		s := sealedAgain(all[:min(max(n, 0), 4)])
		if len(s) < 4096 && read(t, "any bytes", s) {
			l, _ := otherRead(s)
			holds(t, "any bytes", l)
		}
	})
}

func ExampleRead() {
	b, why := group.Write([]api.Row{
		{Time: 10, Seq: 1, Cells: []api.Cell{{Col: "color", Kind: api.Text, S: "red"}, {Col: "n", Kind: api.Int, N: 5}}},
		{Time: 12, Seq: 1, Cells: []api.Cell{{Col: "color", Kind: api.Text, S: "blue"}}},
		{Time: 12, Seq: 2},
	})
	fmt.Println(why == api.OK)
	g, why := group.Read(b)
	fmt.Println(why == api.OK, g.Count(), g.Times())
	l, never := g.Scan(api.Pred{Kind: api.Null, Col: "n"}, nil, 0, 0)
	fmt.Println(l, never)
	l, never = g.Scan(api.Pred{Kind: api.Less, Col: "n", N: 5}, nil, 0, api.UseZones)
	fmt.Println(l, never)
	// Output:
	// true
	// true 3 {3 12 [10]}
	// [{12 1 [{color 2 0 blue}]} {12 2 []}] false
	// [] true
}
