package dels_test

import (
	"bytes"
	"encoding/binary"
	"encoding/hex"
	"fmt"
	"math"
	"math/rand"
	"slices"
	"strconv"
	"strings"
	"testing"

	"columbarium/api"
	"columbarium/dels"
)

const (
	most = 1 << 20
	room = 8 // bytes behind what Decode is given
)

// A plan is marks as a text: 1 of a row that is marked, else 0.

// fresh answers marks of so many rows.
func fresh(t *testing.T, rows int) *dels.Marks {
	t.Helper()
	m, why := dels.New(rows)
	if m == nil || why != api.OK {
		t.Fatalf("P11.1: New(%d): %v, %d", rows, m, why)
	}
	return m
}

// made answers marks as the plan has them.
func made(t *testing.T, plan string) *dels.Marks {
	t.Helper()
	m := fresh(t, len(plan))
	for i := range plan {
		if plan[i] == '1' && !m.Set(i) {
			t.Fatalf("P11.1: Set(%d) of %d rows, the first time: false", i, len(plan))
		}
	}
	return m
}

// short answers a plan without the most of a long one.
func short(plan string) string {
	return fmt.Sprintf("%d rows %.40s", len(plan), plan)
}

// nones answers places that none of so many rows has.
func nones(rows int) []int {
	out := []int{math.MinInt, math.MinInt + 1, math.MinInt32, -1 << 20, -129, -128, -65, -64, -63, -8, -2, -1, math.MaxInt32, math.MaxInt - 1, math.MaxInt}
	for i := range 66 {
		out = append(out, rows+i)
	}
	return out
}

// planOf answers by Has what m is.
func planOf(m *dels.Marks) string {
	var out strings.Builder
	for i := range m.Rows() {
		if m.Has(i) {
			out.WriteByte('1')
		} else {
			out.WriteByte('0')
		}
	}
	return out.String()
}

// leftOf answers the places that the plan does not mark.
func leftOf(plan string) []int {
	var out []int
	for i, c := range plan {
		if c == '0' {
			out = append(out, i)
		}
	}
	return out
}

// shows fails unless m answers what the plan does, whatever it is asked.
func shows(t *testing.T, name string, m *dels.Marks, plan string) {
	t.Helper()
	if m.Rows() != len(plan) {
		t.Fatalf("P11.1: Rows, %s: %d, want %s", name, m.Rows(), short(plan))
	}
	if got := planOf(m); got != plan {
		t.Fatalf("P11.1: Has, %s: %s, want %s", name, short(got), short(plan))
	}
	if got, want := m.Count(), strings.Count(plan, "1"); got != want {
		t.Errorf("P11.1: Count, %s: %d, want %d of %s", name, got, want, short(plan))
	}
	if got, want := m.Left(), leftOf(plan); !slices.Equal(got, want) {
		t.Errorf("P11.1: Left, %s: %d, want %d of %s", name, len(got), len(want), short(plan))
	}
	for _, i := range nones(len(plan)) {
		if m.Has(i) {
			t.Errorf("R5: Has(%d), %s: true of %s", i, name, short(plan))
		}
	}
	if got, want := string(m.Encode()), written(plan); got != want {
		t.Errorf("P11.2: Encode, %s: %.40x, want %.40x of %s", name, got, want, short(plan))
	}
}

// head answers a number as it is written, by the library.
func head(n uint64) string {
	return string(binary.AppendUvarint(nil, n))
}

// group answers eight of a plan as a byte: the first is the lowest bit.
func group(eight string) byte {
	turned := []byte(eight)
	slices.Reverse(turned)
	n, err := strconv.ParseUint(string(turned), 2, 8)
	if err != nil {
		panic(err)
	}
	return byte(n)
}

// asRuns is another reckoning of what runs makes of a plan: texts are cut, and groups wait for the next run.
func asRuns(plan string) string {
	var out strings.Builder
	var waiting []byte
	put := func() {
		if len(waiting) > 0 {
			out.WriteString(head(2*uint64(len(waiting)) + 1))
			out.Write(waiting)
			waiting = nil
		}
	}
	for plan != "" {
		rest := strings.TrimLeft(plan, plan[:1])
		if size := len(plan) - len(rest); size >= 8 {
			put()
			out.WriteString(head(2 * uint64(size)))
			out.WriteByte(plan[0] - '0')
			plan = rest
			continue
		}
		eight := plan[:min(8, len(plan))]
		waiting = append(waiting, group(eight+strings.Repeat("0", 8-len(eight))))
		plan = plan[len(eight):]
	}
	put()
	return out.String()
}

// written is another reckoning of Encode.
func written(plan string) string {
	return head(uint64(len(plan))) + asRuns(plan)
}

// otherGet reads a number at the front of s, and answers what is behind it.
func otherGet(s string) (uint64, string, api.Errno) {
	if !strings.ContainsFunc(s, func(c rune) bool { return c < 128 }) {
		return 0, "", api.ErrEnd
	}
	// Uvarint takes more than one writing of a number.
	n, size := binary.Uvarint([]byte(s))
	if size <= 0 || head(n) != s[:size] {
		return 0, "", api.ErrForm
	}
	return n, s[size:], api.OK
}

// otherPiece reads a run or groups at the front of s, of left rows at most, and answers what is behind them; a number that is no mark becomes a question mark.
func otherPiece(s string, left int) (string, string, api.Errno) {
	n, s, why := otherGet(s)
	if why != api.OK {
		return "", "", why
	}
	isRun, n := n%2 == 0, n/2
	if isRun && s == "" || !isRun && n > uint64(len(s)) {
		return "", "", api.ErrEnd
	}
	if n == 0 || isRun && n > uint64(left) || !isRun && n > uint64(left+7)/8 {
		return "", "", api.ErrForm
	}
	if isRun {
		mark := "?"
		if s[0] < 2 {
			mark = strconv.Itoa(int(s[0]))
		}
		return strings.Repeat(mark, int(n)), s[1:], api.OK
	}
	var out strings.Builder
	for _, x := range []byte(s[:n]) {
		turned := []byte(fmt.Sprintf("%08b", x))
		slices.Reverse(turned)
		out.Write(turned)
	}
	return out.String(), s[n:], api.OK
}

// otherDecode is another reckoning of Decode: it answers a plan.
func otherDecode(s string, at int) (string, int, api.Errno) {
	if at < 0 || at > len(s) {
		return "", 0, api.ErrArg
	}
	rows, rest, why := otherGet(s[at:])
	if why != api.OK {
		return "", 0, why
	}
	if rows >= most+1 {
		return "", 0, api.ErrMany
	}
	marks, plan := rest, ""
	for left := int(rows); left > 0; left = int(rows) - len(plan) {
		var piece string
		piece, rest, why = otherPiece(rest, left)
		if why != api.OK {
			return "", 0, why
		}
		plan += piece
	}
	plan, behind := plan[:rows], plan[rows:]
	if strings.ContainsAny(plan, "?") || strings.Contains(behind, "1") {
		return "", 0, api.ErrForm
	}
	if asRuns(plan) != marks[:len(marks)-len(rest)] {
		return "", 0, api.ErrForm
	}
	return plan, len(s) - len(rest), api.OK
}

// filledBytes answers s's bytes with bytes behind them that would end a number.
func filledBytes(s string) []byte {
	b := make([]byte, len(s)+room)
	copy(b, s)
	for i := len(s); i < len(b); i++ {
		b[i] = 1
	}
	return b[:len(s)]
}

func untouchedBytes(t *testing.T, b []byte, s string) {
	t.Helper()
	if !bytes.Equal(b[:len(s)+room], filledBytes(s)[:len(s)+room]) {
		t.Errorf("R2: what was handed in as %.40x was changed", s)
	}
}

// decoded fails unless Decode of s at at answers that plan.
func decoded(t *testing.T, name, s string, at int, plan string, wantEnd int) *dels.Marks {
	t.Helper()
	b := filledBytes(s)
	m, end, why := dels.Decode(b, at)
	if m == nil || end != wantEnd || why != api.OK {
		t.Fatalf("P11.2: Decode(%.40x, %d), %s: %v, %d, %d, want %s, %d", s, at, name, m, end, why, short(plan), wantEnd)
	}
	untouchedBytes(t, b, s)
	shows(t, name+", read", m, plan)
	return m
}

// refused fails unless Decode of s at at answers that refusal and nothing else.
func refused(t *testing.T, name, s string, at int, want api.Errno) {
	t.Helper()
	b := filledBytes(s)
	if m, end, why := dels.Decode(b, at); m != nil || end != 0 || why != want {
		t.Errorf("P11.2: Decode(%.40x, %d), %s: %v, %d, %d, want %d", s, at, name, m, end, why, want)
	}
	untouchedBytes(t, b, s)
}

// whole fails unless marks as the plan has them answer so, are written so, and are read again, alone and among other bytes.
func whole(t *testing.T, name, plan string) {
	t.Helper()
	shows(t, name, made(t, plan), plan)
	s := written(plan)
	decoded(t, name, s, 0, plan, len(s))
	decoded(t, name+", behind others", "zz"+s, 2, plan, len(s)+2)
	decoded(t, name+", ahead of others", s+"\x00\x01", 0, plan, len(s))
	decoded(t, name+", among others", "\x80"+s+"\x80\x00", 1, plan, len(s)+1)
}

func none(rows int) string { return strings.Repeat("0", rows) }

func all(rows int) string { return strings.Repeat("1", rows) }

// seconds answers a plan with each second row marked.
func seconds(rows int) string { return strings.Repeat("01", rows/2+1)[:rows] }

// one answers a plan with the row i marked.
func one(rows, i int) string { return none(i) + "1" + none(rows-i-1) }

func TestTheChaptersRun(t *testing.T) {
	m := fresh(t, 3)
	if !m.Set(1) {
		t.Error("P11.1: New(3), Set(1): false")
	}
	if got := m.Left(); !slices.Equal(got, []int{0, 2}) {
		t.Errorf("P11.1: New(3), Set(1), Left: %d, want 0 2", got)
	}
}

func TestTheChaptersExamples(t *testing.T) {
	m := fresh(t, 3)
	if first, second := m.Set(1), m.Set(1); !first || second {
		t.Errorf("P11.1: Set twice: %v, %v", first, second)
	}
	if got := fresh(t, 0).Encode(); string(got) != "\x00" {
		t.Errorf("P11.2: Encode of no rows: %x, want 00", got)
	}
}

func TestNew(t *testing.T) {
	for _, rows := range []int{0, 1, 2, 7, 8, 9, 63, 64, 65, 127, 128, 129, 4096, most - 1, most} {
		shows(t, "new", fresh(t, rows), none(rows))
	}
	for _, rows := range []int{math.MinInt, math.MinInt + 1, math.MinInt32, -most, -64, -2, -1, most + 1, most + 2, 1 << 21, math.MaxInt32, 1 << 40, math.MaxInt - 63, math.MaxInt - 1, math.MaxInt} {
		if m, why := dels.New(rows); m != nil || why != api.ErrArg {
			t.Errorf("P11.1: New(%d): %v, %d, want ErrArg", rows, m, why)
		}
	}
}

func TestSetOfEachPlace(t *testing.T) {
	for _, rows := range []int{1, 2, 7, 8, 9, 15, 16, 17, 63, 64, 65, 127, 128, 129, 193} {
		for i := range rows {
			m := fresh(t, rows)
			if !m.Set(i) {
				t.Errorf("P11.1: Set(%d) of %d rows: false", i, rows)
			}
			shows(t, "one set", m, one(rows, i))
			if m.Set(i) {
				t.Errorf("P11.1: Set(%d) of %d rows, twice: true", i, rows)
			}
			shows(t, "one set twice", m, one(rows, i))
		}
	}
}

func TestSetOfPlacesThatAreNone(t *testing.T) {
	for _, rows := range []int{0, 1, 7, 8, 9, 63, 64, 65, 128} {
		for _, plan := range []string{none(rows), all(rows), seconds(rows)} {
			m := made(t, plan)
			for _, i := range nones(rows) {
				if m.Set(i) || m.Has(i) {
					t.Errorf("R5: Set(%d) of %d rows: true", i, rows)
				}
			}
			shows(t, "none set", m, plan)
		}
	}
}

func TestPlacesOfManyRows(t *testing.T) {
	m := fresh(t, most)
	plan := []byte(none(most))
	for _, i := range []int{0, 1, 63, 64, most/2 - 1, most / 2, most - 65, most - 64, most - 2, most - 1} {
		if m.Has(i) || !m.Set(i) || m.Set(i) || !m.Has(i) {
			t.Errorf("P11.1: the row %d of %d is not marked once", i, most)
		}
		plan[i] = '1'
	}
	for _, i := range nones(most) {
		if m.Set(i) {
			t.Errorf("R5: Set(%d) of %d rows: true", i, most)
		}
	}
	shows(t, "many rows", m, string(plan))
}

func TestSetInEveryOrder(t *testing.T) {
	r := rand.New(rand.NewSource(1))
	for range 300 {
		rows := 1 + r.Intn(200)
		m, plan := fresh(t, rows), []byte(none(rows))
		for n, i := range r.Perm(rows) {
			if m.Has(i) || !m.Set(i) || !m.Has(i) || m.Count() != n+1 {
				t.Fatalf("P11.1: Set(%d) of %d rows: Count %d, want %d", i, rows, m.Count(), n+1)
			}
			plan[i] = '1'
			if n%16 == 0 {
				shows(t, "set in any order", m, string(plan))
			}
		}
		shows(t, "all set", m, all(rows))
	}
}

// joined answers both plans in one.
func joined(a, b string) string {
	out := []byte(a)
	for i := range b {
		out[i] = max(a[i], b[i])
	}
	return string(out)
}

// ored fails unless Or of the two plans, either way round, marks all of both, and leaves what is handed in.
func ored(t *testing.T, a, b string) {
	t.Helper()
	both := joined(a, b)
	for _, c := range [][2]string{{a, b}, {b, a}} {
		m, o := made(t, c[0]), made(t, c[1])
		for _, name := range []string{"Or", "Or twice"} {
			if why := m.Or(o); why != api.OK {
				t.Errorf("P11.1: %s of %s and %s: %d", name, short(c[0]), short(c[1]), why)
			}
			shows(t, name, m, both)
			shows(t, name+", handed in", o, c[1])
		}
	}
}

// unored fails unless Or of the two plans, either way round, is refused and turns nothing.
func unored(t *testing.T, a, b string) {
	t.Helper()
	m, o := made(t, a), made(t, b)
	if why := m.Or(o); why != api.ErrArg {
		t.Errorf("P11.1: Or of %s and %s: %d, want ErrArg", short(a), short(b), why)
	}
	if why := o.Or(m); why != api.ErrArg {
		t.Errorf("P11.1: Or of %s and %s: %d, want ErrArg", short(b), short(a), why)
	}
	shows(t, "a refused Or", m, a)
	shows(t, "a refused Or", o, b)
}

// fewRows calls do with each plan of fewer than n rows.
func fewRows(n int, do func(plan string)) {
	for rows := range n {
		for i := range 1 << rows {
			do(strings.Repeat("0", rows-len(binaryOf(i))) + binaryOf(i))
		}
	}
}

// binaryOf answers i's bits, none of 0.
func binaryOf(i int) string {
	return strings.TrimLeft(strconv.FormatInt(int64(i), 2), "0")
}

func TestOrOfFewRows(t *testing.T) {
	var plans []string
	fewRows(5, func(plan string) { plans = append(plans, plan) })
	for _, a := range plans {
		for _, b := range plans {
			if len(a) == len(b) {
				ored(t, a, b)
			} else {
				unored(t, a, b)
			}
		}
	}
}

func TestOr(t *testing.T) {
	for _, rows := range []int{0, 1, 7, 8, 9, 63, 64, 65, 127, 128, 129, 300} {
		list := []string{none(rows), all(rows), seconds(rows), (all(rows/3) + none(rows))[:rows]}
		if rows > 0 {
			list = append(list, one(rows, 0), one(rows, rows-1))
		}
		for _, a := range list {
			for _, b := range list {
				ored(t, a, b)
			}
		}
	}
	ored(t, none(most-1)+"1", "1"+none(most-1))
}

func TestOrWithItself(t *testing.T) {
	for _, rows := range []int{0, 1, 8, 63, 64, 65, 200} {
		for _, plan := range []string{none(rows), all(rows), seconds(rows)} {
			m := made(t, plan)
			if why := m.Or(m); why != api.OK {
				t.Errorf("P11.1: Or of %s with itself: %d", short(plan), why)
			}
			shows(t, "Or with itself", m, plan)
		}
	}
}

func TestOrIsRefused(t *testing.T) {
	for _, rows := range []int{0, 1, 7, 8, 63, 64, 65, 128, 129} {
		for _, plan := range []string{none(rows), all(rows), seconds(rows)} {
			m := made(t, plan)
			if why := m.Or(nil); why != api.ErrArg {
				t.Errorf("P11.1: Or(nil) of %s: %d, want ErrArg", short(plan), why)
			}
			shows(t, "Or(nil)", m, plan)
			for _, other := range []int{0, rows - 1, rows + 1, rows + 63, rows + 64, 1000} {
				if other >= 0 && other != rows {
					unored(t, plan, all(other))
					unored(t, plan, none(other))
				}
			}
		}
	}
	unored(t, all(most), all(most-1))
	unored(t, all(most-1), none(most))
}

func TestOrKeepsNothing(t *testing.T) {
	for _, rows := range []int{2, 8, 63, 64, 65, 130} {
		a, b := one(rows, 0), none(rows)
		m, o := made(t, b), made(t, a)
		m.Or(o)
		m.Set(rows - 1)
		shows(t, "set in the one that was handed another", m, joined(a, one(rows, rows-1)))
		shows(t, "handed in", o, a)
		if !o.Set(1) {
			t.Errorf("R2: Set(1) of what was handed in: false")
		}
		shows(t, "handed in, set later", o, joined(a, one(rows, 1)))
		if rows > 2 {
			shows(t, "what was marked later in the one handed in", m, joined(a, one(rows, rows-1)))
		}
	}
}

func TestMarksAreApart(t *testing.T) {
	for _, rows := range []int{1, 8, 64, 65} {
		x, y := fresh(t, rows), fresh(t, rows)
		x.Set(0)
		shows(t, "other marks", y, none(rows))
		b := []byte(written(none(rows)))
		v, _, _ := dels.Decode(b, 0)
		w, _, _ := dels.Decode(b, 0)
		v.Set(rows - 1)
		shows(t, "read twice", w, none(rows))
		shows(t, "read and set", v, one(rows, rows-1))
	}
}

func TestEncode(t *testing.T) {
	for _, c := range []struct{ plan, want string }{
		{"", "00"},
		{"0", "010300"},
		{"1", "010301"},
		{"10", "020301"},
		{"01", "020302"},
		{"010", "030302"},
		{"011", "030306"},
		{none(7), "070300"},
		{all(7), "07037f"},
		{none(8), "081000"},
		{all(8), "081001"},
		{none(9), "091200"},
		{all(9), "091201"},
		{"01010101", "0803aa"},
		{"10101010", "080355"},
		{"010101010", "0905aa00"},
		{"0101010101", "0a05aa02"},
		{all(7) + "0", "08037f"},
		{"0" + all(7), "0803fe"},
		{"0" + all(8), "0905fe01"},
		{"0" + all(9), "0a05fe03"},
		{all(8) + "0", "0910010300"},
		{all(9) + "0", "0a12010300"},
		{all(7) + none(8), "0f057f00"},
		{all(7) + none(9), "10037f1000"},
		{all(8) + none(8), "1010011000"},
		{seconds(8) + all(8), "1003aa1001"},
		{seconds(16) + all(9), "1905aaaa1201"},
		{none(63), "3f7e00"},
		{none(64), "40800100"},
		{all(65), "41820101"},
		{none(64) + "1", "418001000301"},
		{none(most), "808040" + "80808001" + "00"},
		{all(most), "808040" + "80808001" + "01"},
		{seconds(most), "808040" + "818010" + strings.Repeat("aa", most/8)},
	} {
		if got := hex.EncodeToString(made(t, c.plan).Encode()); got != c.want {
			t.Errorf("P11.2: Encode of %s: %.40s, want %.40s", short(c.plan), got, c.want)
		}
		whole(t, "written out", c.plan)
	}
}

func TestEachPlanOfFewRows(t *testing.T) {
	fewRows(13, func(plan string) { whole(t, "few rows", plan) })
}

func TestEachLength(t *testing.T) {
	for rows := range 140 {
		for _, plan := range []string{none(rows), all(rows), seconds(rows), (all(rows/2) + none(rows))[:rows], (none(rows/2) + seconds(rows))[:rows]} {
			whole(t, "each length", plan)
		}
	}
}

func TestManyRows(t *testing.T) {
	for _, rows := range []int{most - 65, most - 1, most} {
		for _, plan := range []string{none(rows), all(rows), seconds(rows), one(rows, 0), one(rows, rows-1), one(rows, rows/2)} {
			shows(t, "many rows", made(t, plan), plan)
			s := written(plan)
			decoded(t, "many rows", "z"+s+"\x00", 1, plan, len(s)+1)
		}
	}
}

// alike answers a plan of rows that are alike, so many each time, the first ones marked or not.
func alike(first int, sizes ...int) string {
	var out strings.Builder
	for i, size := range sizes {
		out.WriteString(strings.Repeat(strconv.Itoa((first+i)%2), size))
	}
	return out.String()
}

func TestRowsThatAreAlike(t *testing.T) {
	sizes := []int{1, 6, 7, 8, 9, 15, 16, 17}
	for first := range 2 {
		for _, a := range sizes {
			whole(t, "alike", alike(first, a))
			for _, b := range sizes {
				whole(t, "alike, two", alike(first, a, b))
				for _, c := range sizes {
					whole(t, "alike, three", alike(first, a, b, c))
				}
			}
		}
		whole(t, "alike, long", alike(first, 7, 64, 8, 63, 9, 65, 1, 1, 200, 8, 8, 7, 7, 9, 9))
	}
}

func TestReadMarksGoOn(t *testing.T) {
	for _, plan := range []string{"0", "00000000", seconds(9), none(65), seconds(130)} {
		m := decoded(t, "to be set", written(plan), 0, plan, len(written(plan)))
		i := strings.LastIndex(plan, "0")
		want := joined(plan, one(len(plan), i))
		if !m.Set(i) || m.Set(i) {
			t.Errorf("P11.2: Set(%d) of marks that were read is not true once", i)
		}
		shows(t, "read and set", m, want)
		if why := m.Or(made(t, seconds(len(plan)))); why != api.OK {
			t.Errorf("P11.2: Or of marks that were read: %d", why)
		}
		shows(t, "read and joined", m, joined(want, seconds(len(plan))))
		o := fresh(t, len(plan))
		if why := o.Or(m); why != api.OK {
			t.Errorf("P11.2: Or with marks that were read: %d", why)
		}
		shows(t, "joined with what was read", o, planOf(m))
	}
}

func TestDecodeRefuses(t *testing.T) {
	for _, c := range []struct {
		name, s string
		want    api.Errno
	}{
		{"no bytes", "", api.ErrEnd},
		{"rows that do not end", "\x80", api.ErrEnd},
		{"rows with a last byte 0", "\x80\x00", api.ErrForm},
		{"rows with a last byte 0, marks behind", "\x83\x00\x03\x06", api.ErrForm},
		{"rows of eleven bytes", strings.Repeat("\x80", 10) + "\x01", api.ErrForm},
		{"rows above 2^64 - 1", strings.Repeat("\x80", 9) + "\x02", api.ErrForm},
		{"rows, and nothing behind", "\x03", api.ErrEnd},
		{"a head that does not end", "\x03\x83", api.ErrEnd},
		{"a head with a last byte 0", "\x03\x83\x00\x06", api.ErrForm},
		{"a group that lacks", "\x03\x03", api.ErrEnd},
		{"a group of two that lacks", "\x09\x05\xaa", api.ErrEnd},
		{"a run's mark that lacks", "\x09\x12", api.ErrEnd},
		{"groups that are none", "\x03\x01\x06", api.ErrForm},
		{"a run of none", "\x09\x00\x01", api.ErrForm},
		{"a group too many", "\x03\x05\x06\x00", api.ErrForm},
		{"a run that is too long", "\x09\x14\x01", api.ErrForm},
		{"a run that is too short, nothing behind", "\x09\x10\x01", api.ErrEnd},
		{"a run of 2", "\x09\x12\x02", api.ErrForm},
		{"a run of 255", "\x09\x12\xff", api.ErrForm},
		{"a row that is filled up and marked", "\x03\x03\x0e", api.ErrForm},
		{"the last that is filled up and marked", "\x03\x03\x86", api.ErrForm},
		{"the first behind nine, marked", "\x09\x05\xaa\x02", api.ErrForm},
		{"a run of seven", "\x07\x0e\x01", api.ErrForm},
		{"a run of one", "\x01\x02\x01", api.ErrForm},
		{"a group of eight that are the same", "\x08\x03\xff", api.ErrForm},
		{"a group of eight that are not marked", "\x08\x03\x00", api.ErrForm},
		{"two runs that are one", "\x10\x10\x01\x10\x01", api.ErrForm},
		{"groups apart that stand together", "\x10\x03\xaa\x03\xaa", api.ErrForm},
		{"a run that goes on in a group", "\x0a\x10\x01\x03\x01", api.ErrForm},
		{"2^20 rows, and nothing behind", head(most), api.ErrEnd},
		{"2^20 rows and one more", head(most + 1), api.ErrMany},
		{"2^20 rows and one more, with their marks", head(most+1) + head(2*(most+1)) + "\x00", api.ErrMany},
		{"2^20 rows and one more, with marks of 2^20", head(most+1) + head(2*most) + "\x00", api.ErrMany},
		{"2^21 rows", head(1<<21) + head(1<<22) + "\x01", api.ErrMany},
		{"rows above 32 bits", head(1<<32) + "\x03\x00", api.ErrMany},
		{"rows above 32 bits by three", head(1<<32+3) + "\x03\x06", api.ErrMany},
		{"rows above what an int bears", head(1<<63) + "\x03\x00", api.ErrMany},
		{"rows above what an int bears by three", head(1<<63+3) + "\x03\x06", api.ErrMany},
		{"the most rows of all", head(math.MaxUint64) + "\x03\x00", api.ErrMany},
		{"rows that become -1, and nothing behind", head(math.MaxUint64), api.ErrMany},
		{"a run of more than an int bears", "\x09" + head(math.MaxUint64-1) + "\x01", api.ErrForm},
		{"groups of more than an int bears", "\x09" + head(math.MaxUint64) + "\x01", api.ErrEnd},
		{"a run of 2^20 and one more", head(most) + head(2*most+2) + "\x00", api.ErrForm},
		{"a run of one too few, then groups that lack", head(most) + head(2*most-2) + "\x00", api.ErrEnd},
	} {
		refused(t, c.name, c.s, 0, c.want)
		refused(t, c.name+", behind others", "\x03\x03\x06"+c.s, 3, c.want)
	}
}

func TestTheOrderOfDecodesRefusals(t *testing.T) {
	for _, c := range []struct {
		name, s string
		at      int
		want    api.Errno
	}{
		{"a place that is none, and rows that do not end", "\x80", 2, api.ErrArg},
		{"a place that is none, and rows of a wrong form", "\x80\x00", -1, api.ErrArg},
		{"a place that is none, and too many rows", head(most + 1), 4, api.ErrArg},
		{"a place that is none, and a group that lacks", "\x03\x03", 3, api.ErrArg},
		{"a place that is none, and a wrong group", "\x03\x03\x0e", -1, api.ErrArg},
		{"rows that do not end, and have too many bytes", strings.Repeat("\x80", 20), 0, api.ErrEnd},
		{"rows of a wrong form, and too many", "\x81\x80\xc0\x00", 0, api.ErrForm},
		{"rows of a wrong form, and nothing behind", "\x83\x00", 0, api.ErrForm},
		{"rows above 2^64 - 1, and too many", strings.Repeat("\xff", 9) + "\x7f", 0, api.ErrForm},
		{"too many rows, and nothing behind", head(most + 1), 0, api.ErrMany},
		{"too many rows, and a head that does not end", head(most+1) + "\x80", 0, api.ErrMany},
		{"too many rows, and a head of a wrong form", head(most+1) + "\x80\x00", 0, api.ErrMany},
		{"too many rows, and a group that lacks", head(most+1) + "\x03", 0, api.ErrMany},
		{"too many rows, and a run of none", head(most+1) + "\x00\x00", 0, api.ErrMany},
		{"too many rows, and a run of 2", head(most+1) + head(2*(most+1)) + "\x02", 0, api.ErrMany},
		{"a run that is too long and lacks its mark", "\x03\x14", 0, api.ErrEnd},
		{"groups that are too many and lack", "\x03\x07\x06\x06", 0, api.ErrEnd},
		{"a run of none that lacks its mark", "\x03\x00", 0, api.ErrEnd},
		{"a run of 2, and nothing behind", "\x0a\x10\x02", 0, api.ErrEnd},
		{"a run of 2, then too many", "\x0a\x10\x02\x14\x01", 0, api.ErrForm},
		{"a run of seven, and nothing behind", "\x08\x0e\x01", 0, api.ErrEnd},
	} {
		refused(t, c.name, c.s, c.at, c.want)
	}
}

func TestDecodesPlaces(t *testing.T) {
	s := written("011")
	for _, at := range []int{math.MinInt, -2, -1, len(s) + 1, len(s) + 2, len(s) + room, len(s) + room + 1, math.MaxInt} {
		refused(t, "a place that is none", s, at, api.ErrArg)
		refused(t, "a place that is none, wrong bytes", "\x80\x00\x06", at, api.ErrArg)
		refused(t, "a place that is none, too many rows", "\x81\x80\x40", at, api.ErrArg)
	}
	refused(t, "the end", s, len(s), api.ErrEnd)
	refused(t, "the end of others", "\x00\x00", 2, api.ErrEnd)
	decoded(t, "the beginning", s, 0, "011", len(s))
	decoded(t, "no rows, the last byte", "zzz\x00", 3, "", 4)
	decoded(t, "no rows ahead of others", "\x00\x03\x06", 0, "", 1)
	for _, b := range [][]byte{nil, {}} {
		if m, end, why := dels.Decode(b, 0); m != nil || end != 0 || why != api.ErrEnd {
			t.Errorf("R4: Decode of no bytes: %v, %d, %d", m, end, why)
		}
		if m, end, why := dels.Decode(b, 1); m != nil || end != 0 || why != api.ErrArg {
			t.Errorf("R5: Decode of no bytes at 1: %v, %d, %d", m, end, why)
		}
		if m, end, why := dels.Decode(b, -1); m != nil || end != 0 || why != api.ErrArg {
			t.Errorf("R5: Decode of no bytes at -1: %v, %d, %d", m, end, why)
		}
	}
}

func TestACutIsTold(t *testing.T) {
	for _, plan := range []string{
		"", "0", "1", "011", none(7), all(8), all(9), seconds(9), none(64) + "1", alike(1, 7, 9, 8, 1), alike(0, 9, 8, 7, 200, 3, 3),
		seconds(300), none(300), none(most), one(most, most/2), seconds(2000) + all(2000) + seconds(7),
	} {
		s := written(plan)
		if got := string(made(t, plan).Encode()); got != s {
			t.Errorf("P11.2: Encode of %s: %.40x, want %.40x", short(plan), got, s)
		}
		for n := range len(s) {
			refused(t, "a cut", s[:n], 0, api.ErrEnd)
			refused(t, "a cut behind others", "\x80"+s[:n], 1, api.ErrEnd)
		}
	}
}

// somePlan answers rows that are often alike.
func somePlan(r *rand.Rand) string {
	var out strings.Builder
	for range r.Intn(6) {
		switch r.Intn(4) {
		case 0:
			out.WriteString(none(r.Intn(20)))
		case 1:
			out.WriteString(all(r.Intn(20)))
		case 2:
			out.WriteString(seconds(r.Intn(30)))
		case 3:
			for range r.Intn(30) {
				out.WriteByte('0' + byte(r.Intn(2)))
			}
		}
	}
	return out.String()
}

func TestPlansOfEveryKind(t *testing.T) {
	r := rand.New(rand.NewSource(2))
	for range 5000 {
		plan := somePlan(r)
		whole(t, "any plan", plan)
		other := []byte(plan)
		r.Shuffle(len(other), func(i, j int) { other[i], other[j] = other[j], other[i] })
		ored(t, plan, string(other))
		if next := somePlan(r); len(next) != len(plan) {
			unored(t, plan, next)
		}
	}
}

// lists keeps each of some marks as a list of its places, which no call of the program turns.
type lists struct {
	rows   []int
	marks  []*dels.Marks
	places [][]int
}

// plan answers what the i-th is meant to be.
func (l *lists) plan(i int) string {
	out := []byte(none(l.rows[i]))
	for _, place := range l.places[i] {
		out[place] = '1'
	}
	return string(out)
}

// set marks a row of the i-th in both.
func (l *lists) set(t *testing.T, i, place int) {
	t.Helper()
	want := place >= 0 && place < l.rows[i] && !slices.Contains(l.places[i], place)
	if l.marks[i].Has(place) != slices.Contains(l.places[i], place) {
		t.Fatalf("P11.1: Has(%d): %v", place, !slices.Contains(l.places[i], place))
	}
	if got := l.marks[i].Set(place); got != want {
		t.Fatalf("P11.1: Set(%d): %v", place, got)
	}
	if want {
		l.places[i] = append(l.places[i], place)
	}
}

// or joins the j-th into the i-th in both.
func (l *lists) or(t *testing.T, i, j int) {
	t.Helper()
	want := api.OK
	if l.rows[i] != l.rows[j] {
		want = api.ErrArg
	}
	if got := l.marks[i].Or(l.marks[j]); got != want {
		t.Fatalf("P11.1: Or of %d and %d rows: %d, want %d", l.rows[i], l.rows[j], got, want)
	}
	if want == api.OK {
		all := slices.Concat(l.places[i], l.places[j])
		slices.Sort(all)
		l.places[i] = slices.Compact(all)
	}
}

// again puts what the j-th is as bytes into the i-th's stead.
func (l *lists) again(t *testing.T, i, j int) {
	t.Helper()
	b := l.marks[j].Encode()
	m, end, why := dels.Decode(b, 0)
	if m == nil || end != len(b) || why != api.OK {
		t.Fatalf("P11.2: Decode of Encode: %d, %d", end, why)
	}
	l.marks[i], l.rows[i], l.places[i] = m, l.rows[j], slices.Clone(l.places[j])
}

// call makes one call by four numbers.
func (l *lists) call(t *testing.T, what, i, j, place int) {
	t.Helper()
	i, j = i%len(l.rows), j%len(l.rows)
	switch what % 8 {
	case 0:
		l.or(t, i, j)
	case 1:
		l.again(t, i, j)
	default:
		l.set(t, i, place)
	}
	for i := range l.rows {
		shows(t, "calls of every kind", l.marks[i], l.plan(i))
	}
}

// startLists answers marks of so many rows each, none marked.
func startLists(t *testing.T, rows ...int) *lists {
	t.Helper()
	l := &lists{rows: rows, places: make([][]int, len(rows))}
	for _, n := range rows {
		l.marks = append(l.marks, fresh(t, n))
	}
	return l
}

func TestCallsOfEveryKind(t *testing.T) {
	r := rand.New(rand.NewSource(3))
	for range 200 {
		rows := 1 + r.Intn(80)
		l := startLists(t, rows, rows, rows, r.Intn(80))
		for range 100 {
			l.call(t, r.Intn(8), r.Intn(4), r.Intn(4), r.Intn(rows+8)-4)
		}
	}
}

// holdBytes fails unless Decode of s answers what the other reckoning does, and Encode answers what was read.
func holdBytes(t *testing.T, s string, at int) {
	t.Helper()
	plan, wantEnd, want := otherDecode(s, at)
	if want != api.OK {
		refused(t, "any bytes", s, at, want)
		return
	}
	m := decoded(t, "any bytes", s, at, plan, wantEnd)
	if b := m.Encode(); string(b) != s[at:wantEnd] {
		t.Errorf("P11.2: Encode of what was read of %.40x at %d: %.40x", s, at, b)
	}
}

func TestBytesOfEveryKind(t *testing.T) {
	r := rand.New(rand.NewSource(4))
	pieces := []string{"\x00", "\x00", "\x01", "\x01", "\x02", "\x03", "\x03", "\x05", "\x06", "\x07", "\x08", "\x09", "\x0a", "\x10", "\x11", "\x12", "\x7f", "\x80", "\xaa", "\xff", "\x80\x00", "\x80\x01", "\xff\x01", head(most + 1), head(1 << 32), head(1 << 63), head(math.MaxUint64), head(math.MaxUint64 - 1)}
	for range 100000 {
		var s string
		for range r.Intn(9) {
			s += pieces[r.Intn(len(pieces))]
		}
		if r.Intn(8) == 0 {
			s = s[:r.Intn(len(s)+1)]
		}
		holdBytes(t, s, 0)
		holdBytes(t, s, r.Intn(len(s)+4)-2)
	}
	for range 20000 {
		b := []byte(written(somePlan(r)))
		b[r.Intn(len(b))] = byte(r.Intn(256))
		holdBytes(t, string(b), 0)
	}
	small := []byte{0, 1, 2, 3, 5, 8, 9, 16, 255}
	for i := range 9 * 9 * 9 * 9 * 9 {
		holdBytes(t, string([]byte{small[i%9], small[i/9%9], small[i/81%9], small[i/729%9], small[i/6561]}), 0)
	}
}

func TestEachByteTurned(t *testing.T) {
	for _, plan := range []string{"", "0", "011", all(8), all(9), alike(1, 7, 9), seconds(20) + all(9), alike(0, 9, 8, 7)} {
		s := written(plan)
		for i := range s {
			for x := range 256 {
				b := []byte(s)
				b[i] = byte(x)
				holdBytes(t, string(b), 0)
				holdBytes(t, string(b)+"\x00\x00", 0)
			}
		}
	}
}

func FuzzDecode(f *testing.F) {
	f.Add([]byte("\x03\x03\x06"), 0)
	f.Add([]byte("zz\x10\x03\x7f\x10\x00"), 2)
	f.Add([]byte("\x00\x00\x00"), 3)
	f.Add([]byte("\x81\x80\x40\x00"), 0)
	f.Fuzz(func(t *testing.T, b []byte, at int) {
		holdBytes(t, string(b), at)
	})
}

func FuzzCalls(f *testing.F) {
	f.Add(9, 9, []byte{2, 0, 0, 3, 0, 0, 1, 0})
	f.Add(64, 65, []byte{2, 0, 0, 63, 2, 1, 0, 64, 0, 1, 0, 0})
	f.Fuzz(func(t *testing.T, first, second int, b []byte) {
		if first < 0 || first > 300 || second < 0 || second > 300 || len(b) > 200 {
			return
		}
		l := startLists(t, first, second, first)
		for ; len(b) >= 4; b = b[4:] {
			l.call(t, int(b[0]), int(b[1]), int(b[2]), int(b[3])-3)
		}
	})
}

// scribble overwrites all of l's memory, its spare room too.
func scribble[T any](l []T, with T) {
	for i := range l[:cap(l)] {
		l[:cap(l)][i] = with
	}
}

func TestAnswersAreNewMemory(t *testing.T) {
	for _, plan := range []string{"", "0", "1", "011", none(8), all(9), seconds(65), alike(1, 8, 64, 9)} {
		m := made(t, plan)
		left, other := m.Left(), m.Left()
		scribble(left, 77)
		if !slices.Equal(other, leftOf(plan)) {
			t.Errorf("R2: Left's answer changes with another answer: %d", other)
		}
		shows(t, "Left written over", m, plan)

		one, two := m.Encode(), m.Encode()
		scribble(one, 0x11)
		if string(two) != written(plan) {
			t.Errorf("R2: Encode's answer changes with another answer: %x", two)
		}
		shows(t, "Encode written over", m, plan)

		b := filledBytes("zz" + written(plan))
		got, _, _ := dels.Decode(b, 2)
		scribble(b, 0x22)
		shows(t, "what was read from, written over", got, plan)
		if len(plan) > 0 {
			left, two = got.Left(), got.Encode()
			got.Or(made(t, all(len(plan))))
			if !slices.Equal(left, leftOf(plan)) || string(two) != written(plan) {
				t.Errorf("R2: answers change with later marks: %d, %x", left, two)
			}
		}
	}
}

func ExampleMarks() {
	m, _ := dels.New(3)
	fmt.Println(m.Set(1), m.Set(1), m.Has(1), m.Count(), m.Left())
	o, _ := dels.New(3)
	o.Set(2)
	m.Or(o)
	fmt.Printf("%x\n", m.Encode())
	back, end, _ := dels.Decode(m.Encode(), 0)
	fmt.Println(back.Left(), end)
	// Output:
	// true false true 1 [0 2]
	// 030306
	// [0] 3
}
