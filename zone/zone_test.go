package zone_test

import (
	"bytes"
	"encoding/binary"
	"fmt"
	"math"
	"math/rand"
	"slices"
	"strings"
	"testing"

	"columbarium/api"
	"columbarium/zone"
)

const (
	far  = 1 << 20 // rows that a zone has at most
	room = 8       // cells behind a list's length
)

var (
	null  = api.Cell{}
	forty = strings.Repeat("x", 40)
	mark  = api.Cell{Col: "??", Kind: api.Int, N: math.MinInt64, S: "??"} // what stands in a list's room
	zero  = zone.Zone{}
)

func num(n int64) api.Cell { return api.Cell{Kind: api.Int, N: n} }

func text(s string) api.Cell { return api.Cell{Kind: api.Text, S: s} }

func nums(rows, nulls int, least, greatest int64) zone.Zone {
	return zone.Zone{Kind: api.Int, Rows: rows, Nulls: nulls, MinN: least, MaxN: greatest}
}

func texts(rows, nulls int, least, greatest string) zone.Zone {
	return zone.Zone{Kind: api.Text, Rows: rows, Nulls: nulls, MinS: least, MaxS: greatest}
}

// filled answers l's cells with a known cell in the room behind them.
func filled(l []api.Cell) []api.Cell {
	out := append([]api.Cell{}, l...)
	for range room {
		out = append(out, mark)
	}
	return out[:len(l)]
}

// untouched fails if a call changed what filled(l) made.
func untouched(t *testing.T, given, l []api.Cell) {
	t.Helper()
	if !slices.Equal(given[:len(l)+room], filled(l)[:len(l)+room]) {
		t.Errorf("R2: what was handed in as %#v was changed: %#v", l, given[:len(l)+room])
	}
}

// filledBytes answers s's bytes with bytes behind them that go on as a zone may.
func filledBytes(s string) []byte {
	b := bytes.Repeat([]byte{0x01}, len(s)+64)
	copy(b, s)
	return b[:len(s)]
}

func untouchedBytes(t *testing.T, b []byte, s string) {
	t.Helper()
	if !bytes.Equal(b[:len(s)+64], filledBytes(s)[:len(s)+64]) {
		t.Errorf("R2: what was handed in as %.40x was changed", s)
	}
}

// otherBuild is another reckoning of Build: values are kept in lists and put in order by the library.
func otherBuild(kind int, l []api.Cell) zone.Zone {
	var n []int64
	var s []string
	nulls := 0
	for _, c := range l {
		switch {
		case c.Kind == 0 || c.Kind != kind:
			nulls++
		case kind == api.Int:
			n = append(n, c.N)
		case kind == api.Text:
			s = append(s, c.S)
		}
	}
	z := zone.Zone{Kind: kind, Rows: len(l), Nulls: nulls}
	slices.Sort(n)
	slices.SortFunc(s, strings.Compare)
	if len(n) > 0 {
		z.MinN, z.MaxN = n[0], n[len(n)-1]
	}
	if len(s) > 0 {
		z.MinS, z.MaxS = s[0], s[len(s)-1]
	}
	return z
}

// otherRight is another reckoning of Right, in the chapter's order.
func otherRight(z zone.Zone) bool {
	if z.Kind != 1 && z.Kind != 2 || z.Nulls < 0 || z.Nulls > z.Rows || z.Rows > 1048576 || len(z.MinS) > 40 || len(z.MaxS) > 40 {
		return false
	}
	if z.Rows == z.Nulls {
		return z == zone.Zone{Kind: z.Kind, Rows: z.Rows, Nulls: z.Nulls}
	}
	if z.Kind == 1 {
		return z.MinN <= z.MaxN && z.MinS+z.MaxS == ""
	}
	return strings.Compare(z.MinS, z.MaxS) <= 0 && z.MinN == 0 && z.MaxN == 0
}

// head answers numbers as they are written, by the library.
func head(l ...uint64) string {
	var b []byte
	for _, n := range l {
		b = binary.AppendUvarint(b, n)
	}
	return string(b)
}

// written answers z as Encode writes it, whether it is Right or not, by the library.
func written(z zone.Zone) string {
	b := []byte(head(uint64(z.Kind), uint64(z.Rows), uint64(z.Nulls)))
	if z.Rows == z.Nulls {
		return string(b)
	}
	if z.Kind == api.Int {
		return string(binary.AppendVarint(binary.AppendVarint(b, z.MinN), z.MaxN))
	}
	for _, s := range []string{z.MinS, z.MaxS} {
		b = append(binary.AppendUvarint(b, uint64(len(s))), s...)
	}
	return string(b)
}

// reader cuts off what it reads, and keeps the first refusal.
type reader struct {
	rest string
	why  api.Errno
}

// number is another reckoning of what is read of a number: Uvarint takes more than one writing of it.
func (r *reader) number() uint64 {
	if r.why != api.OK {
		return 0
	}
	if !strings.ContainsFunc(r.rest, func(c rune) bool { return c < 128 }) {
		r.why = api.ErrEnd
		return 0
	}
	n, size := binary.Uvarint([]byte(r.rest))
	if size <= 0 || head(n) != r.rest[:size] {
		r.why = api.ErrForm
		return 0
	}
	r.rest = r.rest[size:]
	return n
}

// text is another reckoning of what is read of a text.
func (r *reader) text() string {
	size := r.number()
	switch {
	case r.why != api.OK:
		return ""
	case size > 40:
		r.why = api.ErrLong
		return ""
	case int(size) > len(r.rest):
		r.why = api.ErrEnd
		return ""
	}
	s := r.rest[:size]
	r.rest = r.rest[size:]
	return s
}

// otherDecode is another reckoning of Decode.
func otherDecode(s string, at int) (zone.Zone, int, api.Errno) {
	if at < 0 || at > len(s) {
		return zero, 0, api.ErrArg
	}
	r := &reader{rest: s[at:]}
	kind, rows, nulls := r.number(), r.number(), r.number()
	if r.why != api.OK {
		return zero, 0, r.why
	}
	if kind == 0 || kind > 2 || rows > 1048576 || nulls > rows {
		return zero, 0, api.ErrForm
	}
	z := zone.Zone{Kind: int(kind), Rows: int(rows), Nulls: int(nulls)}
	switch {
	case rows == nulls:
	case kind == 1:
		least, greatest := r.number(), r.number()
		z.MinN, z.MaxN = int64(least/2)^-int64(least%2), int64(greatest/2)^-int64(greatest%2)
	default:
		z.MinS, z.MaxS = r.text(), r.text()
	}
	if r.why != api.OK {
		return zero, 0, r.why
	}
	if !otherRight(z) {
		return zero, 0, api.ErrForm
	}
	return z, len(s) - len(r.rest), api.OK
}

// built fails unless Build of l answers want.
func built(t *testing.T, kind int, l []api.Cell, want zone.Zone) {
	t.Helper()
	given := filled(l)
	if z := zone.Build(kind, given); z != want {
		t.Errorf("P8.1: Build(%d, %#v): %#v, want %#v", kind, l, z, want)
	}
	untouched(t, given, l)
}

// right fails unless Right and Encode of z answer that, and what is written is read again.
func right(t *testing.T, name string, z zone.Zone, want bool) {
	t.Helper()
	if got := zone.Right(z); got != want {
		t.Errorf("P8.1: Right(%#v), %s: %v", z, name, got)
	}
	b, why := zone.Encode(z)
	if !want {
		if len(b) != 0 || why != api.ErrForm {
			t.Errorf("P8.2: Encode(%#v), %s: %x, %d, want ErrForm", z, name, b, why)
		}
		return
	}
	s := written(z)
	if string(b) != s || why != api.OK {
		t.Errorf("P8.2: Encode(%#v), %s: %x, %d, want %x", z, name, b, why, s)
	}
	decoded(t, name, s, 0, z, len(s), api.OK)
	decoded(t, name+", behind others", "zz"+s, 2, z, len(s)+2, api.OK)
	decoded(t, name+", among others", "\x80"+s+"\x01", 1, z, len(s)+1, api.OK)
}

// decoded fails unless Decode of s at at answers that.
func decoded(t *testing.T, name, s string, at int, want zone.Zone, wantEnd int, wantWhy api.Errno) {
	t.Helper()
	b := filledBytes(s)
	z, end, why := zone.Decode(b, at)
	if z != want || end != wantEnd || why != wantWhy {
		t.Errorf("P8.2: Decode(%.60x, %d), %s: %#v, %d, %d, want %#v, %d, %d", s, at, name, z, end, why, want, wantEnd, wantWhy)
	}
	untouchedBytes(t, b, s)
}

// joined fails unless Join of a and b answers that.
func joined(t *testing.T, name string, a, b, want zone.Zone, wantWhy api.Errno) {
	t.Helper()
	if z, why := zone.Join(a, b); z != want || why != wantWhy {
		t.Errorf("P8.1: Join(%#v, %#v), %s: %#v, %d, want %#v, %d", a, b, name, z, why, want, wantWhy)
	}
}

// joinedBothWays fails unless Join answers that whichever column is the first one.
func joinedBothWays(t *testing.T, name string, a, b, want zone.Zone, wantWhy api.Errno) {
	t.Helper()
	joined(t, name, a, b, want, wantWhy)
	joined(t, name+", turned round", b, a, want, wantWhy)
}

func TestBuildOfNumbers(t *testing.T) {
	for _, c := range []struct {
		l    []api.Cell
		want zone.Zone
	}{
		{[]api.Cell{num(5), null, num(3)}, nums(3, 1, 3, 5)},
		{nil, nums(0, 0, 0, 0)},
		{[]api.Cell{}, nums(0, 0, 0, 0)},
		{[]api.Cell{null}, nums(1, 1, 0, 0)},
		{[]api.Cell{null, null, null}, nums(3, 3, 0, 0)},
		{[]api.Cell{num(0)}, nums(1, 0, 0, 0)},
		{[]api.Cell{num(7)}, nums(1, 0, 7, 7)},
		{[]api.Cell{num(-7)}, nums(1, 0, -7, -7)},
		{[]api.Cell{null, num(7)}, nums(2, 1, 7, 7)},
		{[]api.Cell{num(-7), null}, nums(2, 1, -7, -7)},
		{[]api.Cell{null, num(4), null, num(9), null}, nums(5, 3, 4, 9)},
		{[]api.Cell{num(1), num(2), num(3)}, nums(3, 0, 1, 3)},
		{[]api.Cell{num(3), num(2), num(1)}, nums(3, 0, 1, 3)},
		{[]api.Cell{num(2), num(1), num(3), num(2)}, nums(4, 0, 1, 3)},
		{[]api.Cell{num(5), num(5), num(5)}, nums(3, 0, 5, 5)},
		{[]api.Cell{num(-2), num(-9), num(-4)}, nums(3, 0, -9, -2)},
		{[]api.Cell{num(math.MaxInt64), num(math.MinInt64)}, nums(2, 0, math.MinInt64, math.MaxInt64)},
		{[]api.Cell{num(math.MaxInt64)}, nums(1, 0, math.MaxInt64, math.MaxInt64)},
		{[]api.Cell{null, num(math.MinInt64), null}, nums(3, 2, math.MinInt64, math.MinInt64)},
	} {
		built(t, api.Int, c.l, c.want)
	}
}

func TestBuildOfTexts(t *testing.T) {
	for _, c := range []struct {
		l    []api.Cell
		want zone.Zone
	}{
		{nil, texts(0, 0, "", "")},
		{[]api.Cell{}, texts(0, 0, "", "")},
		{[]api.Cell{null, null}, texts(2, 2, "", "")},
		{[]api.Cell{text("")}, texts(1, 0, "", "")},
		{[]api.Cell{text(""), null}, texts(2, 1, "", "")},
		{[]api.Cell{text("b"), null, text("a")}, texts(3, 1, "a", "b")},
		{[]api.Cell{text("b"), text(""), text("a")}, texts(3, 0, "", "b")},
		{[]api.Cell{null, text("b")}, texts(2, 1, "b", "b")},
		{[]api.Cell{text("b"), null}, texts(2, 1, "b", "b")},
		{[]api.Cell{text("ab"), text("a"), text("abc")}, texts(3, 0, "a", "abc")},
		{[]api.Cell{text("10"), text("9")}, texts(2, 0, "10", "9")},
		{[]api.Cell{text("z"), text("Z"), text("\xc3\xa4")}, texts(3, 0, "Z", "\xc3\xa4")},
		{[]api.Cell{text("\x80"), text("\xff"), text("\x7f")}, texts(3, 0, "\x7f", "\xff")},
		{[]api.Cell{text("a\x00"), text("a")}, texts(2, 0, "a", "a\x00")},
		{[]api.Cell{text("\x00"), null}, texts(2, 1, "\x00", "\x00")},
		{[]api.Cell{text(forty + "x"), text("y")}, texts(2, 0, forty+"x", "y")},
	} {
		built(t, api.Text, c.l, c.want)
	}
}

func TestCellsOfAnotherKindAreNull(t *testing.T) {
	mixed := []api.Cell{num(5), text("b"), null, num(-3), text("a"), {Kind: 3, N: -99, S: ""}, {Kind: -1, N: 99, S: "z"}}
	built(t, api.Int, mixed, nums(7, 5, -3, 5))
	built(t, api.Text, mixed, texts(7, 5, "a", "b"))
	built(t, api.Int, []api.Cell{text("a"), text("b")}, nums(2, 2, 0, 0))
	built(t, api.Text, []api.Cell{num(1), num(2)}, texts(2, 2, "", ""))
	for _, kind := range []int{math.MinInt, -2, -1, 0, 3, 4, math.MaxInt} {
		built(t, api.Int, []api.Cell{{Kind: kind, N: 8, S: "s"}, num(9)}, nums(2, 1, 9, 9))
		built(t, api.Text, []api.Cell{text("t"), {Kind: kind, N: 8, S: "s"}}, texts(2, 1, "t", "t"))
	}
}

func TestFieldsWithoutMeaningStayOut(t *testing.T) {
	built(t, api.Int, []api.Cell{{Col: "c", Kind: api.Int, N: 4, S: "s"}}, nums(1, 0, 4, 4))
	built(t, api.Text, []api.Cell{{Col: "c", Kind: api.Text, N: 4, S: "s"}}, texts(1, 0, "s", "s"))
	built(t, api.Int, []api.Cell{{Col: "c", N: 4, S: "s"}}, nums(1, 1, 0, 0))
	built(t, api.Text, []api.Cell{{Col: "c", N: 4, S: "s"}}, texts(1, 1, "", ""))
	built(t, api.Int, []api.Cell{{N: 4}, num(6), {N: 8}}, nums(3, 2, 6, 6))
	built(t, api.Text, []api.Cell{{S: "a"}, text("b"), {S: "c"}}, texts(3, 2, "b", "b"))
}

func TestBuildOfKindsThatAreNone(t *testing.T) {
	l := []api.Cell{num(5), null, text("a"), {N: 3, S: "s"}}
	for _, kind := range []int{math.MinInt, -1, 0, 3, math.MaxInt} {
		built(t, kind, l, zone.Zone{Kind: kind, Rows: 4, Nulls: 4})
		built(t, kind, nil, zone.Zone{Kind: kind})
		right(t, "a Kind that is none", zone.Build(kind, l), false)
	}
	// Cells of such a Kind are there, but have no least.
	built(t, 3, []api.Cell{{Kind: 3, N: 5, S: "a"}, null}, zone.Zone{Kind: 3, Rows: 2, Nulls: 1})
	built(t, -1, []api.Cell{{Kind: -1, N: 5, S: "a"}}, zone.Zone{Kind: -1, Rows: 1})
}

// everyShort answers all lists of at most most of those cells.
func everyShort(cells []api.Cell, most int) [][]api.Cell {
	all := [][]api.Cell{nil}
	lists := all
	for range most {
		var longer [][]api.Cell
		for _, l := range lists {
			for _, c := range cells {
				longer = append(longer, append(slices.Clone(l), c))
			}
		}
		all, lists = append(all, longer...), longer
	}
	return all
}

func TestBuildOfEveryShortColumn(t *testing.T) {
	for _, l := range everyShort([]api.Cell{null, num(-1), num(0), num(1), text(""), text("a"), text("b")}, 4) {
		for kind := range 4 {
			built(t, kind, l, otherBuild(kind, l))
		}
	}
}

// someCells answers up to most cells, most of them of that Kind.
func someCells(r *rand.Rand, kind, most int) []api.Cell {
	letters := "ab\x00\x7f\x80\xff"
	var l []api.Cell
	for range r.Intn(most + 1) {
		c := api.Cell{Kind: kind, N: r.Int63n(9) - 4, S: string(letters[r.Intn(6)]) + string(letters[r.Intn(6)])}
		c.S = c.S[:r.Intn(3)]
		switch r.Intn(8) {
		case 0:
			c.Kind = r.Intn(5) - 1
		case 1:
			c.Kind = 0
		case 2:
			c.N = int64(r.Uint64())
		}
		l = append(l, c)
	}
	return l
}

func TestColumnsOfEveryKind(t *testing.T) {
	r := rand.New(rand.NewSource(8))
	for range 4000 {
		kind := 1 + r.Intn(2)
		l := someCells(r, kind, 40)
		want := otherBuild(kind, l)
		built(t, kind, l, want)
		right(t, "a column of any cells", want, true)
	}
}

func TestRightOfCounts(t *testing.T) {
	for _, kind := range []int{api.Int, api.Text} {
		of := func(rows, nulls int) zone.Zone { return zone.Zone{Kind: kind, Rows: rows, Nulls: nulls} }
		for _, c := range []struct {
			name string
			z    zone.Zone
			want bool
		}{
			{"no rows", of(0, 0), true},
			{"one row", of(1, 0), true},
			{"one null", of(1, 1), true},
			{"more nulls than rows", of(1, 2), false},
			{"a null of no rows", of(0, 1), false},
			{"nulls below 0", of(1, -1), false},
			{"nulls below 0 of no rows", of(0, -1), false},
			{"rows below 0", of(-1, 0), false},
			{"rows and nulls below 0", of(-1, -1), false},
			{"rows below 0, nulls below them", of(-1, -2), false},
			{"the least rows", of(math.MinInt, 0), false},
			{"the least rows and nulls", of(math.MinInt, math.MinInt), false},
			{"the least nulls", of(5, math.MinInt), false},
			{"the greatest nulls", of(5, math.MaxInt), false},
			{"the greatest rows", of(math.MaxInt, 0), false},
			{"the greatest rows and nulls", of(math.MaxInt, math.MaxInt), false},
			{"one null less than rows", of(5, 4), true},
			{"as many nulls as rows", of(5, 5), true},
			{"one null more than rows", of(5, 6), false},
			{"2^20 rows less one", of(far-1, 7), true},
			{"2^20 rows", of(far, 0), true},
			{"2^20 rows, 2^20 nulls", of(far, far), true},
			{"2^20 rows, one null less", of(far, far-1), true},
			{"2^20 rows, one null more", of(far, far+1), false},
			{"2^20 rows and one more", of(far+1, 0), false},
			{"2^20 rows and one more, all null", of(far+1, far+1), false},
			{"2^32 rows", of(1<<32, 0), false},
			{"2^32 and one rows", of(1<<32+1, 1), false},
		} {
			right(t, c.name, c.z, c.want)
		}
	}
}

func TestRightOfKinds(t *testing.T) {
	for _, kind := range []int{math.MinInt, -2, -1, 0, 1, 2, 3, 4, 127, 128, 256 + 1, 1<<32 + 1, math.MaxInt} {
		want := kind == 1 || kind == 2
		right(t, "a Kind, no rows", zone.Zone{Kind: kind}, want)
		right(t, "a Kind, nulls", zone.Zone{Kind: kind, Rows: 3, Nulls: 3}, want)
		right(t, "a Kind, values", zone.Zone{Kind: kind, Rows: 3, Nulls: 1}, want)
		right(t, "a Kind, numbers", zone.Zone{Kind: kind, Rows: 3, MinN: 1, MaxN: 2}, kind == 1)
		right(t, "a Kind, texts", zone.Zone{Kind: kind, Rows: 3, MinS: "a", MaxS: "b"}, kind == 2)
	}
	right(t, "the zero value", zero, false)
}

func TestRightOfValues(t *testing.T) {
	for _, c := range []struct {
		name string
		z    zone.Zone
		want bool
	}{
		{"numbers", nums(2, 0, 1, 2), true},
		{"numbers alike", nums(2, 0, 2, 2), true},
		{"numbers the wrong way round", nums(2, 0, 3, 2), false},
		{"numbers of both signs", nums(2, 0, -1, 1), true},
		{"numbers of both signs, the wrong way round", nums(2, 0, 1, -1), false},
		{"numbers below 0", nums(2, 0, -9, -8), true},
		{"numbers below 0, the wrong way round", nums(2, 0, -8, -9), false},
		{"one row with two numbers", nums(1, 0, 1, 2), true},
		{"all numbers", nums(2, 1, math.MinInt64, math.MaxInt64), true},
		{"all numbers, the wrong way round", nums(2, 1, math.MaxInt64, math.MinInt64), false},
		{"the least number", nums(2, 1, math.MinInt64, math.MinInt64), true},
		{"the greatest number", nums(2, 1, math.MaxInt64, math.MaxInt64), true},
		{"texts", texts(2, 0, "a", "b"), true},
		{"texts alike", texts(2, 0, "b", "b"), true},
		{"texts the wrong way round", texts(2, 0, "c", "b"), false},
		{"a text and its beginning", texts(2, 0, "a", "ab"), true},
		{"a text and its beginning, the wrong way round", texts(2, 0, "ab", "a"), false},
		{"the empty text as the least", texts(2, 0, "", "a"), true},
		{"the empty text as the greatest", texts(2, 0, "a", ""), false},
		{"the empty text as both", texts(2, 0, "", ""), true},
		{"a text of one zero byte", texts(2, 0, "", "\x00"), true},
		{"bytes above 127", texts(2, 0, "\x7f", "\x80"), true},
		{"bytes above 127, the wrong way round", texts(2, 0, "\x80", "\x7f"), false},
		{"the greatest bytes", texts(2, 0, "\xfe\xff", "\xff"), true},
		{"MaxText bytes", texts(2, 0, forty, forty), true},
		{"MaxText bytes as the least", texts(2, 0, forty, "y"), true},
		{"MaxText bytes as the greatest", texts(2, 0, "w", forty), true},
		{"MaxText bytes and one more", texts(2, 0, forty+"x", forty+"x"), false},
		{"MaxText bytes and one more as the least", texts(2, 0, forty+"x", "y"), false},
		{"MaxText bytes and one more as the greatest", texts(2, 0, "w", forty+"x"), false},
		{"MaxText bytes above 127", texts(2, 0, strings.Repeat("\xff", 40), strings.Repeat("\xff", 40)), true},
	} {
		right(t, c.name, c.z, c.want)
	}
}

func TestFieldsThatMustBeZero(t *testing.T) {
	right(t, "a column of numbers", nums(3, 1, 1, 2), true)
	right(t, "a column of texts", texts(3, 1, "a", "b"), true)
	for _, turn := range []func(z *zone.Zone){
		func(z *zone.Zone) { z.MinN = -1 },
		func(z *zone.Zone) { z.MaxN = 1 },
		func(z *zone.Zone) { z.MinN, z.MaxN = 1, 1 },
		func(z *zone.Zone) { z.MinN, z.MaxN = math.MinInt64, math.MaxInt64 },
		func(z *zone.Zone) { z.MinS = "a" },
		func(z *zone.Zone) { z.MaxS = "a" },
		func(z *zone.Zone) { z.MinS, z.MaxS = "a", "b" },
		func(z *zone.Zone) { z.MinS, z.MaxS = forty+"x", forty+"x" },
		func(z *zone.Zone) { z.MinS, z.MaxS = "\x00", "\x00" },
	} {
		for kind := 1; kind <= 2; kind++ {
			none := zone.Zone{Kind: kind}
			turn(&none)
			right(t, "no rows, but a value", none, false)
			nulls := zone.Zone{Kind: kind, Rows: 4, Nulls: 4}
			turn(&nulls)
			right(t, "nulls alone, but a value", nulls, false)
			joinedBothWays(t, "nulls alone, but a value", nulls, zone.Zone{Kind: kind}, zero, api.ErrArg)
		}
	}
	for _, s := range []string{"a", "\x00"} {
		right(t, "numbers and a least text", zone.Zone{Kind: api.Int, Rows: 1, MaxN: 1, MinS: s}, false)
		right(t, "numbers and a greatest text", zone.Zone{Kind: api.Int, Rows: 1, MaxN: 1, MaxS: s}, false)
		right(t, "numbers and texts", zone.Zone{Kind: api.Int, Rows: 1, MaxN: 1, MinS: s, MaxS: s}, false)
	}
	for _, n := range []int64{-1, 1, math.MinInt64, math.MaxInt64} {
		right(t, "texts and a least number", zone.Zone{Kind: api.Text, Rows: 1, MaxS: "a", MinN: n}, false)
		right(t, "texts and a greatest number", zone.Zone{Kind: api.Text, Rows: 1, MaxS: "a", MaxN: n}, false)
		right(t, "texts and numbers", zone.Zone{Kind: api.Text, Rows: 1, MaxS: "a", MinN: n, MaxN: n}, false)
	}
}

// someZone answers a zone, Right or not: each field is one that lies near a bound.
func someZone(r *rand.Rand) zone.Zone {
	counts := []int{-1, 0, 1, 2, far/2 - 1, far / 2, far/2 + 1, far - 1, far, far + 1}
	numbers := []int64{0, -1, 1, math.MinInt64, math.MaxInt64}
	all := []string{"", "a", "ab", "b", forty, forty + "x", "\x80"}
	z := zone.Zone{Kind: []int{1, 1, 1, 1, 2, 2, 2, 2, 0, 3, -1}[r.Intn(11)], Rows: counts[r.Intn(10)], Nulls: counts[r.Intn(4)]}
	if r.Intn(3) == 0 {
		z.Nulls = z.Rows - r.Intn(3) + 1
	}
	values := z.Nulls != z.Rows
	if r.Intn(16) == 0 || values && z.Kind != api.Text {
		z.MinN, z.MaxN = numbers[r.Intn(5)], numbers[r.Intn(5)]
	}
	if r.Intn(16) == 0 || values && z.Kind != api.Int {
		z.MinS, z.MaxS = all[r.Intn(7)], all[r.Intn(7)]
	}
	return z
}

// otherJoin is another reckoning of Join: Build of columns whose zones a and b are.
func otherJoin(a, b zone.Zone) (zone.Zone, api.Errno) {
	if a.Kind != b.Kind {
		return zero, api.ErrKind
	}
	if !otherRight(a) || !otherRight(b) || a.Rows+b.Rows > 1048576 {
		return zero, api.ErrArg
	}
	var l []api.Cell
	for _, z := range []zone.Zone{a, b} {
		if z.Rows > z.Nulls {
			l = append(l, api.Cell{Kind: z.Kind, N: z.MinN, S: z.MinS}, api.Cell{Kind: z.Kind, N: z.MaxN, S: z.MaxS})
		}
	}
	z := otherBuild(a.Kind, l)
	z.Rows, z.Nulls = a.Rows+b.Rows, a.Nulls+b.Nulls
	return z, api.OK
}

func TestZonesOfEveryKind(t *testing.T) {
	r := rand.New(rand.NewSource(9))
	seen := map[api.Errno]int{}
	for range 200000 {
		a, b := someZone(r), someZone(r)
		right(t, "any zone", a, otherRight(a))
		want, wantWhy := otherJoin(a, b)
		joined(t, "any zones", a, b, want, wantWhy)
		seen[wantWhy]++
	}
	for _, why := range []api.Errno{api.OK, api.ErrKind, api.ErrArg} {
		if seen[why] < 1000 {
			t.Errorf("only %d joins of %d were asked", seen[why], why)
		}
	}
}

func TestJoin(t *testing.T) {
	for _, c := range []struct {
		name       string
		a, b, want zone.Zone
	}{
		{"numbers", nums(2, 0, 1, 2), nums(3, 1, 5, 9), nums(5, 1, 1, 9)},
		{"numbers that meet", nums(2, 0, 1, 5), nums(3, 1, 5, 9), nums(5, 1, 1, 9)},
		{"numbers within the others", nums(2, 0, 1, 9), nums(3, 1, 4, 5), nums(5, 1, 1, 9)},
		{"numbers alike", nums(2, 1, 4, 4), nums(2, 1, 4, 4), nums(4, 2, 4, 4)},
		{"numbers of both signs", nums(1, 0, -5, -5), nums(1, 0, 5, 5), nums(2, 0, -5, 5)},
		{"the least and the greatest number", nums(1, 0, math.MinInt64, math.MinInt64), nums(1, 0, math.MaxInt64, math.MaxInt64), nums(2, 0, math.MinInt64, math.MaxInt64)},
		{"numbers and no rows", nums(2, 0, 1, 2), nums(0, 0, 0, 0), nums(2, 0, 1, 2)},
		{"numbers below 0 and no rows", nums(2, 0, -3, -2), nums(0, 0, 0, 0), nums(2, 0, -3, -2)},
		{"numbers and nulls", nums(2, 0, 1, 2), nums(4, 4, 0, 0), nums(6, 4, 1, 2)},
		{"numbers below 0 and nulls", nums(2, 0, -3, -2), nums(4, 4, 0, 0), nums(6, 4, -3, -2)},
		{"numbers with nulls and nulls", nums(3, 2, 7, 7), nums(4, 4, 0, 0), nums(7, 6, 7, 7)},
		{"no rows", nums(0, 0, 0, 0), nums(0, 0, 0, 0), nums(0, 0, 0, 0)},
		{"nulls and nulls", nums(2, 2, 0, 0), nums(3, 3, 0, 0), nums(5, 5, 0, 0)},
		{"nulls and no rows", nums(2, 2, 0, 0), nums(0, 0, 0, 0), nums(2, 2, 0, 0)},
		{"nulls and none of them", nums(2, 2, 0, 0), nums(3, 0, 4, 6), nums(5, 2, 4, 6)},
		{"texts", texts(2, 0, "a", "b"), texts(3, 1, "c", "d"), texts(5, 1, "a", "d")},
		{"texts within the others", texts(2, 0, "a", "d"), texts(3, 1, "b", "c"), texts(5, 1, "a", "d")},
		{"texts and no rows", texts(2, 0, "a", "b"), texts(0, 0, "", ""), texts(2, 0, "a", "b")},
		{"texts and nulls", texts(2, 0, "a", "b"), texts(4, 4, "", ""), texts(6, 4, "a", "b")},
		{"texts and the empty text", texts(2, 0, "a", "b"), texts(4, 3, "", ""), texts(6, 3, "", "b")},
		{"the empty text and nulls", texts(1, 0, "", ""), texts(1, 1, "", ""), texts(2, 1, "", "")},
		{"texts, no rows", texts(0, 0, "", ""), texts(0, 0, "", ""), texts(0, 0, "", "")},
		{"nulls of texts", texts(2, 2, "", ""), texts(3, 3, "", ""), texts(5, 5, "", "")},
		{"bytes above 127", texts(1, 0, "\x80", "\x80"), texts(1, 0, "\x7f", "\x7f"), texts(2, 0, "\x7f", "\x80")},
		{"MaxText bytes", texts(1, 0, forty, forty), texts(1, 0, "y", "y"), texts(2, 0, forty, "y")},
		{"2^20 rows together", nums(far-1, 0, 1, 2), nums(1, 0, 3, 3), nums(far, 0, 1, 3)},
		{"2^20 rows and none", nums(far, 0, 1, 2), nums(0, 0, 0, 0), nums(far, 0, 1, 2)},
		{"2^20 nulls together", texts(far/2, far/2, "", ""), texts(far/2, far/2, "", ""), texts(far, far, "", "")},
	} {
		joinedBothWays(t, c.name, c.a, c.b, c.want, api.OK)
	}
}

func TestJoinsRefusals(t *testing.T) {
	good, other := nums(2, 0, 1, 2), texts(2, 0, "a", "b")
	wrong := nums(2, 0, 2, 1)
	for _, c := range []struct {
		name string
		a, b zone.Zone
		want api.Errno
	}{
		{"Kinds unlike", good, other, api.ErrKind},
		{"Kinds unlike, no rows", nums(0, 0, 0, 0), texts(0, 0, "", ""), api.ErrKind},
		{"a Kind that is none and one that is", zone.Zone{}, good, api.ErrKind},
		{"Kinds that are none, unlike", zone.Zone{Kind: 3}, zone.Zone{Kind: 4}, api.ErrKind},
		{"Kinds that are none, alike", zone.Zone{Kind: 3}, zone.Zone{Kind: 3}, api.ErrArg},
		{"zero values", zone.Zone{}, zone.Zone{}, api.ErrArg},
		{"one not Right", good, wrong, api.ErrArg},
		{"both not Right", wrong, wrong, api.ErrArg},
		{"one not Right, Kinds unlike", wrong, other, api.ErrKind},
		{"too many rows, Kinds unlike", nums(far, 0, 1, 2), other, api.ErrKind},
		{"2^20 rows and one more, Kinds unlike", nums(far+1, 0, 1, 2), other, api.ErrKind},
		{"2^20 rows and one", nums(far, 0, 1, 2), nums(1, 0, 1, 1), api.ErrArg},
		{"2^20 rows and one null", nums(far, 0, 1, 2), nums(1, 1, 0, 0), api.ErrArg},
		{"2^20 rows and one more in halves", nums(far/2, 0, 1, 2), nums(far/2+1, 0, 1, 2), api.ErrArg},
		{"2^20 rows twice", texts(far, far, "", ""), texts(far, far, "", ""), api.ErrArg},
		{"2^20 rows and one more in one", nums(far+1, 0, 1, 2), nums(0, 0, 0, 0), api.ErrArg},
		{"too many rows, and one not Right", nums(far, 0, 1, 2), wrong, api.ErrArg},
		{"rows below 0 that make up for others", nums(far+1, 0, 1, 2), nums(-1, 0, 0, 0), api.ErrArg},
		{"rows that wrap round", nums(math.MaxInt, 0, 1, 2), nums(math.MaxInt, 0, 1, 2), api.ErrArg},
		{"a text of MaxText bytes and one more", texts(1, 0, forty+"x", "y"), texts(0, 0, "", ""), api.ErrArg},
		{"more nulls than rows", nums(1, 2, 0, 0), nums(3, 0, 1, 1), api.ErrArg},
		{"nulls below 0", nums(1, -1, 0, 0), nums(3, 1, 1, 1), api.ErrArg},
	} {
		joinedBothWays(t, c.name, c.a, c.b, zero, c.want)
	}
}

// heldTogether fails unless Join of the Builds of a and of b is Build of both.
func heldTogether(t *testing.T, kind int, a, b []api.Cell) {
	t.Helper()
	z, why := zone.Join(zone.Build(kind, a), zone.Build(kind, b))
	if want := zone.Build(kind, append(slices.Clone(a), b...)); z != want || why != api.OK || !zone.Right(z) {
		t.Errorf("P8.3: Join of Builds of %#v and %#v: %#v, %d, want %#v", a, b, z, why, want)
	}
}

func TestJoinOfBuildsIsBuildOfBoth(t *testing.T) {
	short := everyShort([]api.Cell{null, num(-1), num(1), text(""), text("b")}, 2)
	for _, a := range short {
		for _, b := range short {
			heldTogether(t, api.Int, a, b)
			heldTogether(t, api.Text, a, b)
		}
	}
	r := rand.New(rand.NewSource(10))
	for range 10000 {
		kind := 1 + r.Intn(2)
		heldTogether(t, kind, someCells(r, kind, 6), someCells(r, kind, 6))
	}
}

// inAnyGrouping joins the Builds of l's cells: each piece is cut in two at some place, down to pieces of few cells.
func inAnyGrouping(r *rand.Rand, kind int, l []api.Cell) (zone.Zone, api.Errno) {
	if len(l) <= r.Intn(3) {
		return zone.Build(kind, l), api.OK
	}
	middle := r.Intn(len(l) + 1)
	a, why := inAnyGrouping(r, kind, l[:middle])
	if why != api.OK {
		return a, why
	}
	b, why := inAnyGrouping(r, kind, l[middle:])
	if why != api.OK {
		return b, why
	}
	return zone.Join(a, b)
}

func TestJoinInWhateverGrouping(t *testing.T) {
	r := rand.New(rand.NewSource(11))
	for range 5000 {
		kind := 1 + r.Intn(2)
		l := someCells(r, kind, 20)
		if z, why := inAnyGrouping(r, kind, l); why != api.OK || z != otherBuild(kind, l) {
			t.Errorf("P8.3: the pieces of %#v joined: %#v, %d", l, z, why)
		}
	}
}

func TestEncode(t *testing.T) {
	for _, c := range []struct {
		z    zone.Zone
		want string
	}{
		{nums(3, 1, 3, 5), "\x01\x03\x01\x06\x0a"},
		{nums(3, 1, -3, 5), "\x01\x03\x01\x05\x0a"},
		{nums(0, 0, 0, 0), "\x01\x00\x00"},
		{nums(1, 0, 0, 0), "\x01\x01\x00\x00\x00"},
		{nums(2, 2, 0, 0), "\x01\x02\x02"},
		{nums(far, far, 0, 0), "\x01\x80\x80\x40\x80\x80\x40"},
		{nums(300, 2, 64, 64), "\x01\xac\x02\x02\x80\x01\x80\x01"},
		{nums(1, 0, math.MinInt64, math.MaxInt64), "\x01\x01\x00\xff\xff\xff\xff\xff\xff\xff\xff\xff\x01\xfe\xff\xff\xff\xff\xff\xff\xff\xff\x01"},
		{texts(0, 0, "", ""), "\x02\x00\x00"},
		{texts(1, 0, "", ""), "\x02\x01\x00\x00\x00"},
		{texts(2, 0, "", "a"), "\x02\x02\x00\x00\x01a"},
		{texts(4, 2, "ab", "\xff"), "\x02\x04\x02\x02ab\x01\xff"},
		{texts(2, 0, forty, "y"), "\x02\x02\x00\x28" + forty + "\x01y"},
	} {
		if b, why := zone.Encode(c.z); string(b) != c.want || why != api.OK {
			t.Errorf("P8.2: Encode(%#v): %x, %d, want %x", c.z, b, why, c.want)
		}
		decoded(t, "what Encode writes", c.want, 0, c.z, len(c.want), api.OK)
	}
}

func TestDecodesRefusalsOfTheHead(t *testing.T) {
	values := head(2, 4)
	eleven := strings.Repeat("\x80", 10) + "\x01"
	above := strings.Repeat("\xff", 9) + "\x02"
	for _, c := range []struct {
		name, s string
		want    api.Errno
	}{
		{"no bytes", "", api.ErrEnd},
		{"a Kind alone", head(1), api.ErrEnd},
		{"no nulls", head(1, 1), api.ErrEnd},
		{"a Kind that does not end", "\x81", api.ErrEnd},
		{"rows that do not end", "\x01\x81", api.ErrEnd},
		{"nulls that do not end", "\x01\x01\x81", api.ErrEnd},
		{"a Kind of two writings", "\x81\x00\x01\x00" + values, api.ErrForm},
		{"rows of two writings", "\x01\x81\x00\x00" + values, api.ErrForm},
		{"nulls of two writings", "\x01\x01\x80\x00" + values, api.ErrForm},
		{"a Kind of eleven bytes", eleven + "\x01\x00" + values, api.ErrForm},
		{"rows of eleven bytes", "\x01" + eleven + "\x00" + values, api.ErrForm},
		{"nulls above 2^64 - 1", "\x01\x01" + above + values, api.ErrForm},
		{"Kind 0", head(0, 1, 0) + values, api.ErrForm},
		{"Kind 0, nulls alone", head(0, 1, 1), api.ErrForm},
		{"Kind 3", head(3, 1, 0) + values, api.ErrForm},
		{"Kind 3, no rows", head(3, 0, 0), api.ErrForm},
		{"Kind 257", head(257, 0, 0), api.ErrForm},
		{"Kind 2^32 + 1", head(1<<32+1, 0, 0), api.ErrForm},
		{"Kind 2^63 + 1", head(1<<63+1, 0, 0), api.ErrForm},
		{"Kind 2^64 - 1", head(math.MaxUint64, 0, 0), api.ErrForm},
		{"2^20 rows and one more", head(1, far+1, 0) + values, api.ErrForm},
		{"2^20 rows and one more, all null", head(1, far+1, far+1), api.ErrForm},
		{"2^32 + 1 rows", head(1, 1<<32+1, 0) + values, api.ErrForm},
		{"2^63 rows", head(1, 1<<63, 0) + values, api.ErrForm},
		{"2^63 rows, all null", head(1, 1<<63, 1<<63), api.ErrForm},
		{"2^64 - 1 rows", head(1, math.MaxUint64, 0) + values, api.ErrForm},
		{"2^64 - 1 rows, all null", head(1, math.MaxUint64, math.MaxUint64), api.ErrForm},
		{"a null of no rows", head(1, 0, 1) + values, api.ErrForm},
		{"one null more than rows", head(1, 5, 6) + values, api.ErrForm},
		{"2^32 nulls", head(1, 5, 1<<32) + values, api.ErrForm},
		{"2^63 nulls", head(1, 5, 1<<63) + values, api.ErrForm},
		{"2^64 - 1 nulls", head(1, 5, math.MaxUint64) + values, api.ErrForm},
		{"a wrong Kind, and no rows", head(3), api.ErrEnd},
		{"a wrong Kind, and no nulls", head(3, 1), api.ErrEnd},
		{"too many rows, and no nulls", head(1, far+1), api.ErrEnd},
		{"too many rows, and nulls that do not end", head(1, far+1) + "\x80", api.ErrEnd},
		{"a wrong Kind, and no values", head(3, 1, 0), api.ErrForm},
		{"too many rows, and no values", head(1, far+1, 0), api.ErrForm},
		{"too many nulls, and no values", head(2, 1, 2), api.ErrForm},
		{"too many nulls, and a text that is too long", head(2, 1, 2, 41), api.ErrForm},
		{"a wrong Kind, and a text that is too long", head(3, 1, 0, 41), api.ErrForm},
	} {
		decoded(t, c.name, c.s, 0, zero, 0, c.want)
		decoded(t, c.name+", behind others", "zz"+c.s, 2, zero, 0, c.want)
	}
}

func TestDecodesRefusalsOfValues(t *testing.T) {
	num, txt := head(1, 1, 0), head(2, 1, 0)
	for _, c := range []struct {
		name, s string
		want    api.Errno
	}{
		{"no least number", num, api.ErrEnd},
		{"no greatest number", num + "\x02", api.ErrEnd},
		{"a least number that does not end", num + "\x80", api.ErrEnd},
		{"a greatest number that does not end", num + "\x02\x80", api.ErrEnd},
		{"a least number of two writings", num + "\x80\x00\x02", api.ErrForm},
		{"a greatest number of two writings", num + "\x00\x80\x00", api.ErrForm},
		{"a least number above 2^64 - 1", num + strings.Repeat("\xff", 9) + "\x02\x00", api.ErrForm},
		{"numbers the wrong way round", num + "\x04\x02", api.ErrForm},
		{"numbers of both signs the wrong way round", num + "\x02\x01", api.ErrForm},
		{"numbers the wrong way round, no last one", num + "\x04", api.ErrEnd},
		{"all numbers the wrong way round", num + head(math.MaxUint64-1, math.MaxUint64), api.ErrForm},
		{"2^20 rows, no least number", head(1, far, 0), api.ErrEnd},
		{"one null less than rows, no least number", head(1, 5, 4), api.ErrEnd},
		{"no least text", txt, api.ErrEnd},
		{"no greatest text", txt + "\x01a", api.ErrEnd},
		{"a least text that does not end", txt + "\x02a", api.ErrEnd},
		{"a greatest text that does not end", txt + "\x01a\x02b", api.ErrEnd},
		{"a least text's length that does not end", txt + "\x80", api.ErrEnd},
		{"a least text's length of two writings", txt + "\x81\x00a\x01b", api.ErrForm},
		{"a greatest text's length of two writings", txt + "\x01a\x81\x00b", api.ErrForm},
		{"a least text of MaxText bytes and one more", txt + "\x29" + forty + "x\x01y", api.ErrLong},
		{"a greatest text of MaxText bytes and one more", txt + "\x01a\x29" + forty + "x", api.ErrLong},
		{"a least text that is too long, and bytes lack", txt + "\x29", api.ErrLong},
		{"a greatest text that is too long, and bytes lack", txt + "\x01a\x29", api.ErrLong},
		{"a least text of 2^63 bytes", txt + head(1<<63), api.ErrLong},
		{"a least text of 2^64 - 1 bytes", txt + head(math.MaxUint64), api.ErrLong},
		{"both texts too long", txt + "\x29" + forty + "x\x29" + forty + "x", api.ErrLong},
		{"texts the wrong way round", txt + "\x01b\x01a", api.ErrForm},
		{"texts the wrong way round, the last one empty", txt + "\x01b\x00", api.ErrForm},
		{"bytes above 127 the wrong way round", txt + "\x01\x80\x01\x7f", api.ErrForm},
		{"texts the wrong way round, bytes lack", txt + "\x02ba\x02a", api.ErrEnd},
		{"texts the wrong way round, the last one too long", txt + "\x01z\x29" + forty + "x", api.ErrLong},
	} {
		decoded(t, c.name, c.s, 0, zero, 0, c.want)
		decoded(t, c.name+", behind others", "zz"+c.s, 2, zero, 0, c.want)
	}
	decoded(t, "MaxText bytes", txt+"\x28"+forty+"\x28"+forty, 0, texts(1, 0, forty, forty), 85, api.OK)
	decoded(t, "2^20 rows", head(1, far, 0)+"\x02\x02", 0, nums(far, 0, 1, 1), 7, api.OK)
	decoded(t, "nulls alone, values behind them", head(1, 2, 2)+"\x02\x04", 0, nums(2, 2, 0, 0), 3, api.OK)
}

func TestDecodesPlaces(t *testing.T) {
	s := written(nums(3, 1, 3, 5))
	for _, at := range []int{math.MinInt, -2, -1, len(s) + 1, len(s) + 2, len(s) + 64, len(s) + 65, math.MaxInt} {
		decoded(t, "a place that is none", s, at, zero, 0, api.ErrArg)
	}
	decoded(t, "the end", s, len(s), zero, 0, api.ErrEnd)
	decoded(t, "the beginning", s, 0, nums(3, 1, 3, 5), len(s), api.OK)
	decoded(t, "a place that is none, in wrong bytes", "\x80", 2, zero, 0, api.ErrArg)
	decoded(t, "a place below 0, no bytes", "", -1, zero, 0, api.ErrArg)
	decoded(t, "a place behind no bytes", "", 1, zero, 0, api.ErrArg)
	for _, b := range [][]byte{nil, {}} {
		if z, end, why := zone.Decode(b, 0); z != zero || end != 0 || why != api.ErrEnd {
			t.Errorf("R4: Decode of no bytes: %#v, %d, %d", z, end, why)
		}
		if z, end, why := zone.Decode(b, 1); z != zero || end != 0 || why != api.ErrArg {
			t.Errorf("R5: Decode of no bytes at 1: %#v, %d, %d", z, end, why)
		}
	}
}

func TestACutIsTold(t *testing.T) {
	for _, z := range []zone.Zone{
		nums(0, 0, 0, 0), nums(3, 1, 3, 5), nums(far, far, 0, 0), nums(far, 300, math.MinInt64, math.MaxInt64),
		texts(0, 0, "", ""), texts(1, 0, "", ""), texts(4, 2, "ab", "\xff"), texts(far, 1, forty, forty),
	} {
		b, why := zone.Encode(z)
		if why != api.OK {
			t.Fatalf("P8.2: Encode(%#v): %d", z, why)
		}
		for k := range b {
			if got, end, why := zone.Decode(b[:k], 0); got != zero || end != 0 || why != api.ErrEnd {
				t.Errorf("P8.2: Decode of %d bytes of %x: %#v, %d, %d", k, b, got, end, why)
			}
			decoded(t, "cut, behind others", "zz"+string(b[:k]), 2, zero, 0, api.ErrEnd)
		}
	}
}

func TestZonesOneBehindTheOther(t *testing.T) {
	l := []zone.Zone{nums(3, 1, 3, 5), texts(2, 2, "", ""), texts(4, 2, "ab", "\xff"), nums(0, 0, 0, 0), nums(far, 0, -9, -8)}
	var b []byte
	for _, z := range l {
		one, _ := zone.Encode(z)
		b = append(b, one...)
	}
	at := 0
	for i, want := range l {
		z, end, why := zone.Decode(b, at)
		if z != want || why != api.OK {
			t.Fatalf("P8.2: the zone at %d: %#v, %d, want %#v", i, z, why, want)
		}
		at = end
	}
	if at != len(b) {
		t.Errorf("P8.2: the last zone ends at %d of %d", at, len(b))
	}
}

// holdBytes fails unless s is read as the other reckoning reads it, and written again as it was.
func holdBytes(t *testing.T, s string, at int) {
	t.Helper()
	want, wantEnd, wantWhy := otherDecode(s, at)
	decoded(t, "any bytes", s, at, want, wantEnd, wantWhy)
	z, end, why := zone.Decode([]byte(s), at)
	if why != api.OK {
		return
	}
	if b, why := zone.Encode(z); why != api.OK || string(b) != s[at:end] {
		t.Errorf("P8.2: Encode of what was read of %x at %d: %x, %d", s, at, b, why)
	}
}

func TestBytesOfEveryKind(t *testing.T) {
	r := rand.New(rand.NewSource(12))
	pieces := []string{"\x00", "\x01", "\x01", "\x02", "\x02", "\x03", "\x28", "\x29", "\x80", "\x80\x00", "\xff", "\x01a", "\x01b", "\x02ab", "\x01\x80", "\x80\x80\x40", "\x81\x80\x40", "\x28" + forty, "\x29" + forty + "x", head(math.MaxUint64), head(1 << 63)}
	for range 60000 {
		var s string
		for range r.Intn(7) {
			s += pieces[r.Intn(len(pieces))]
		}
		if r.Intn(4) == 0 {
			s = s[:r.Intn(len(s)+1)]
		}
		holdBytes(t, s, 0)
		holdBytes(t, s, r.Intn(len(s)+4)-2)
		holdBytes(t, head(1, 5, 1)+s, 0)
		holdBytes(t, head(2, 5, 1)+s, 0)
	}
	for a := range 256 {
		for b := range 256 {
			holdBytes(t, string([]byte{byte(a), byte(b)}), 0)
			holdBytes(t, string([]byte{1, byte(a), byte(b), 1, 0}), 0)
			holdBytes(t, string([]byte{1, 1, 0, byte(a), byte(b)}), 0)
			holdBytes(t, string([]byte{2, 1, 0, 1, byte(a), 1, byte(b)}), 0)
		}
	}
}

func FuzzDecode(f *testing.F) {
	f.Add([]byte(written(nums(3, 1, 3, 5))), 0)
	f.Add([]byte("zz"+written(texts(4, 2, "ab", "\xff"))), 2)
	f.Add([]byte(written(nums(far+1, 0, 1, 1))), 0)
	f.Add([]byte(written(texts(1, 0, "b", "a"))), 0)
	f.Add([]byte(written(texts(1, 0, "a", forty+"x"))), 0)
	f.Fuzz(func(t *testing.T, b []byte, at int) {
		holdBytes(t, string(b), at)
	})
}

func FuzzZones(f *testing.F) {
	f.Add(1, 3, 1, int64(3), int64(5), "", "")
	f.Add(2, 3, 1, int64(0), int64(0), "a", "b")
	f.Add(1, 4, 4, int64(0), int64(0), "", "")
	f.Fuzz(func(t *testing.T, kind, rows, nulls int, least, greatest int64, first, last string) {
		z := zone.Zone{Kind: kind, Rows: rows, Nulls: nulls, MinN: least, MaxN: greatest, MinS: first, MaxS: last}
		right(t, "any zone", z, otherRight(z))
		for _, other := range []zone.Zone{z, nums(2, 1, -4, 7), texts(2, 1, "a", "c"), {Kind: kind}} {
			want, wantWhy := otherJoin(z, other)
			joinedBothWays(t, "any zone", z, other, want, wantWhy)
		}
	})
}

// scribble overwrites all of l's memory, its spare room too.
func scribble[T any](l []T, with T) {
	for i := range l[:cap(l)] {
		l[:cap(l)][i] = with
	}
}

func TestAnswersAreNewMemory(t *testing.T) {
	z := texts(4, 2, "ab", "cd")
	first, _ := zone.Encode(z)
	second, _ := zone.Encode(z)
	scribble(first, 0x11)
	if string(second) != written(z) {
		t.Errorf("R2: Encode's answer changes with another answer: %x", second)
	}
	if third, _ := zone.Encode(z); string(third) != written(z) {
		t.Errorf("R2: Encode's answer changes with an earlier one: %x", third)
	}

	given := filledBytes(written(z))
	got, _, _ := zone.Decode(given, 0)
	scribble(given, 0x11)
	if got != z {
		t.Errorf("R2: Decode's answer changes with what was handed in: %#v", got)
	}

	cells := filled([]api.Cell{text("b"), null, text("a")})
	built := zone.Build(api.Text, cells)
	scribble(cells, mark)
	if built != texts(3, 1, "a", "b") {
		t.Errorf("R2: Build's answer changes with what was handed in: %#v", built)
	}
}

func TestLongColumns(t *testing.T) {
	l := make([]api.Cell, far+1)
	for i := range l {
		l[i] = num(int64(i*7919%far) - 5)
	}
	l[3] = null
	for _, n := range []int{far - 1, far, far + 1} {
		z := zone.Build(api.Int, l[:n])
		if z != otherBuild(api.Int, l[:n]) || zone.Right(z) != (n <= far) {
			t.Errorf("P8.1: Build of %d cells: %#v", n, z)
		}
		_, why := zone.Join(zone.Build(api.Int, l[:n/2]), zone.Build(api.Int, l[n/2:n]))
		if (why == api.OK) != (n <= far) || why != api.OK && why != api.ErrArg {
			t.Errorf("P8.1: Join of %d cells: %d", n, why)
		}
	}
}

func ExampleBuild() {
	z := zone.Build(api.Int, []api.Cell{{Kind: api.Int, N: 5}, {}, {Kind: api.Int, N: 3}})
	fmt.Println(z.Rows, z.Nulls, z.MinN, z.MaxN)
	// Output: 3 1 3 5
}
