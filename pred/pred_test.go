package pred_test

import (
	"bytes"
	"encoding/binary"
	"fmt"
	"maps"
	"math"
	"math/rand"
	"regexp"
	"slices"
	"strings"
	"testing"

	"columbarium/api"
	"columbarium/pred"
)

const (
	room  = 4 // items behind a list's length
	first = math.MinInt64
	last  = math.MaxInt64
)

func every(kids ...api.Pred) api.Pred {
	return api.Pred{Kind: api.All, Kids: kids}
}

func some(kids ...api.Pred) api.Pred {
	return api.Pred{Kind: api.Any, Kids: kids}
}

func not(kids ...api.Pred) api.Pred {
	return api.Pred{Kind: api.Not, Kids: kids}
}

func less(col string, n int64) api.Pred {
	return api.Pred{Kind: api.Less, Col: col, N: n}
}

func equal(col string, n int64) api.Pred {
	return api.Pred{Kind: api.Equal, Col: col, N: n}
}

func is(col, s string) api.Pred {
	return api.Pred{Kind: api.Is, Col: col, S: s}
}

func in(col string, set ...string) api.Pred {
	return api.Pred{Kind: api.In, Col: col, Set: set}
}

func prefix(col, s string) api.Pred {
	return api.Pred{Kind: api.Prefix, Col: col, S: s}
}

func null(col string) api.Pred {
	return api.Pred{Kind: api.Null, Col: col}
}

func between(n, m int64) api.Pred {
	return api.Pred{Kind: api.Between, N: n, M: m}
}

func number(col string, n int64) api.Cell {
	return api.Cell{Col: col, Kind: api.Int, N: n}
}

func text(col, s string) api.Cell {
	return api.Cell{Col: col, Kind: api.Text, S: s}
}

// with answers a row of which cells alone are of weight.
func with(cells ...api.Cell) api.Row {
	return api.Row{Time: 5, Seq: 3, Cells: cells}
}

// under answers p below so many parts of that Kind.
func under(kind, n int, p api.Pred) api.Pred {
	for range n {
		p = api.Pred{Kind: kind, Kids: []api.Pred{p}}
	}
	return p
}

// times answers so many p.
func times(n int, p api.Pred) []api.Pred {
	return slices.Repeat([]api.Pred{p}, n)
}

// letters answers the texts a, b, c and so on.
func letters(n int) []string {
	var out []string
	for i := range n {
		out = append(out, string(rune('a'+i)))
	}
	return out
}

// ones answers one Right part of each Kind.
func ones() []api.Pred {
	return []api.Pred{every(), some(), not(null("x")), less("x", -5), equal("x", 5), is("s", "ab"), in("s", "a", "b"), prefix("s", "a"), null("y"), between(3, 7)}
}

// sameHead holds all but lists against each other.
func sameHead(a, b api.Pred) bool {
	return a.Kind == b.Kind && a.Col == b.Col && a.N == b.N && a.M == b.M && a.S == b.S
}

func same(a, b api.Pred) bool {
	return sameHead(a, b) && slices.Equal(a.Set, b.Set) && slices.EqualFunc(a.Kids, b.Kids, same)
}

// filled answers p with parts and texts behind its own, at each depth, that would turn an answer if they were read.
func filled(p api.Pred) api.Pred {
	set := slices.Clone(p.Set)
	var kids []api.Pred
	for _, k := range p.Kids {
		kids = append(kids, filled(k))
	}
	for i := range room {
		set = append(set, []string{"", "spare", "a", "abc"}[i])
		kids = append(kids, []api.Pred{{Kind: 99, Col: "spare"}, some(), every(), null("spare")}[i])
	}
	p.Set, p.Kids = set[:len(p.Set)], kids[:len(p.Kids)]
	return p
}

// sameFilled holds what was filled against each other, the room behind it too.
func sameFilled(a, b api.Pred) bool {
	if !sameHead(a, b) || len(a.Set) != len(b.Set) || len(a.Kids) != len(b.Kids) {
		return false
	}
	texts, kids := len(a.Set), len(a.Kids)
	return slices.Equal(a.Set[:texts+room], b.Set[:texts+room]) &&
		slices.EqualFunc(a.Kids, b.Kids, sameFilled) &&
		slices.EqualFunc(a.Kids[kids:kids+room], b.Kids[kids:kids+room], same)
}

func untouched(t *testing.T, given, p api.Pred) {
	t.Helper()
	if !sameFilled(given, filled(p)) {
		t.Errorf("R2: a predicate that was handed in was changed: %v", p)
	}
}

// emptied answers p with lists of no length, where p has none, at each depth.
func emptied(p api.Pred) api.Pred {
	set, kids := []string{}, []api.Pred{}
	for _, k := range p.Kids {
		kids = append(kids, emptied(k))
	}
	p.Set, p.Kids = append(set, p.Set...), kids
	return p
}

// filledRow answers r with cells behind its own that would turn an answer if they were read.
func filledRow(r api.Row) api.Row {
	out := slices.Clone(r.Cells)
	for _, s := range []string{"n", "s", "x", "y"} {
		out = append(out, api.Cell{Col: s, Kind: api.Int, N: 5})
	}
	r.Cells = out[:len(r.Cells)]
	return r
}

func untouchedRow(t *testing.T, given, r api.Row) {
	t.Helper()
	size := len(r.Cells)
	if given.Time != r.Time || given.Seq != r.Seq || !slices.Equal(given.Cells[:size+room], filledRow(r).Cells[:size+room]) {
		t.Errorf("R2: a row that was handed in was changed: %v", r)
	}
}

// filledBytes answers s's bytes with bytes behind them that would end a number.
func filledBytes(s string) []byte {
	b := make([]byte, len(s)+room)
	copy(b, s)
	return b[:len(s)]
}

func untouchedBytes(t *testing.T, b []byte, s string) {
	t.Helper()
	if !bytes.Equal(b[:len(s)+room], filledBytes(s)[:len(s)+room]) {
		t.Errorf("R2: what was handed in as %.40x was changed", s)
	}
}

var nameForm = regexp.MustCompile(`\A[a-z]{1,12}\z`)

// asks tells what each Kind asks, in order: k Kids, o one Kid, c Col, n N, m M, s S, t Set.
var asks = map[uint64]string{1: "k", 2: "k", 3: "o", 4: "cn", 5: "cn", 6: "cs", 7: "ct", 8: "cs", 9: "c", 10: "nm"}

// parts answers p's parts level by level.
func parts(p api.Pred) [][]api.Pred {
	var out [][]api.Pred
	for level := []api.Pred{p}; len(level) > 0; {
		out = append(out, level)
		var next []api.Pred
		for _, q := range level {
			next = append(next, q.Kids...)
		}
		level = next
	}
	return out
}

// otherRight is another reckoning of Right: what is wrong is counted, level by level.
func otherRight(p api.Pred) bool {
	wrong := 0
	count := func(bad bool) {
		if bad {
			wrong++
		}
	}
	levels := parts(p)
	count(len(levels) > 6)
	count(len(slices.Concat(levels...)) > 40)
	for _, q := range slices.Concat(levels...) {
		asked, ok := asks[uint64(q.Kind)]
		asksNot := func(letters string) bool {
			return !strings.ContainsAny(asked, letters)
		}
		count(!ok)
		count(len(q.Kids) > 0 && asksNot("ko"))
		count(!asksNot("o") && len(q.Kids) != 1)
		count(q.Col != "" && asksNot("c"))
		count(!asksNot("c") && !nameForm.MatchString(q.Col))
		count(q.N != 0 && asksNot("n"))
		count(q.M != 0 && asksNot("m"))
		count(q.S != "" && asksNot("s"))
		count(len(q.S) > 40)
		count(len(q.Set) > 0 && asksNot("t"))
		count(len(q.Set) > 8)
		count(!slices.Equal(q.Set, slices.Compact(slices.Sorted(slices.Values(q.Set)))))
		count(slices.ContainsFunc(q.Set, func(s string) bool { return len(s) > 40 }))
	}
	return wrong == 0
}

// otherCols is another reckoning of Cols.
func otherCols(p api.Pred) []string {
	byName := map[string]int{}
	for _, q := range slices.Concat(parts(p)...) {
		byName[q.Col]++
	}
	delete(byName, "")
	return slices.Sorted(maps.Keys(byName))
}

// otherEval is another reckoning of Eval: all Kids are asked ahead of their part.
func otherEval(p api.Pred, r api.Row) bool {
	var kids []bool
	for _, k := range p.Kids {
		kids = append(kids, otherEval(k, r))
	}
	var c api.Cell
	if i := slices.IndexFunc(r.Cells, func(c api.Cell) bool { return c.Col == p.Col }); i >= 0 {
		c = r.Cells[i]
	}
	isNumber, isText := c.Kind == 1, c.Kind == 2
	return map[int]bool{
		1:  !slices.Contains(kids, false),
		2:  slices.Contains(kids, true),
		3:  slices.Index(kids, false) == 0,
		4:  isNumber && !(c.N >= p.N),
		5:  isNumber && c.N == p.N,
		6:  isText && c.S == p.S,
		7:  isText && slices.Index(p.Set, c.S) >= 0,
		8:  isText && c.S[:min(len(c.S), len(p.S))] == p.S,
		9:  !isNumber && !isText && c.Kind == 0,
		10: !(r.Time < p.N) && !(r.Time > p.M),
	}[p.Kind]
}

// step writes p anew by one of the chapter's rules, at the first place where one applies, and tells whether one did.
func step(p api.Pred) (api.Pred, bool) {
	if p.Kind == api.Not {
		kid := p.Kids[0]
		switch kid.Kind {
		case api.Not:
			return kid.Kids[0], true
		case api.All, api.Any:
			out := api.Pred{Kind: api.All + api.Any - kid.Kind}
			for _, k := range kid.Kids {
				out.Kids = append(out.Kids, not(k))
			}
			return out, true
		}
	}
	if p.Kind == api.All || p.Kind == api.Any {
		if len(p.Kids) == 1 {
			return p.Kids[0], true
		}
		if i := slices.IndexFunc(p.Kids, func(k api.Pred) bool { return k.Kind == p.Kind }); i >= 0 {
			p.Kids = slices.Concat(p.Kids[:i], p.Kids[i].Kids, p.Kids[i+1:])
			return p, true
		}
	}
	for i, k := range p.Kids {
		if k, ok := step(k); ok {
			p.Kids = slices.Clone(p.Kids)
			p.Kids[i] = k
			return p, true
		}
	}
	return p, false
}

// otherNormal is another reckoning of Normal: one rule after the other, till none applies.
func otherNormal(p api.Pred) api.Pred {
	for more := otherRight(p); more; {
		p, more = step(p)
	}
	return p
}

// head answers a number as it is written, by the library.
func head(n uint64) string {
	return string(binary.AppendUvarint(nil, n))
}

// zig answers a number of either sign as it is written, by the library.
func zig(n int64) string {
	return string(binary.AppendVarint(nil, n))
}

func writtenText(s string) string {
	return head(uint64(len(s))) + s
}

// written answers p as Encode writes it, whether it is Right or not.
func written(p api.Pred) string {
	s := head(uint64(p.Kind))
	for _, letter := range asks[uint64(p.Kind)] {
		switch letter {
		case 'k':
			s += head(uint64(len(p.Kids)))
			for _, k := range p.Kids {
				s += written(k)
			}
		case 'o':
			for _, k := range p.Kids {
				s += written(k)
			}
		case 'c':
			s += writtenText(p.Col)
		case 'n':
			s += zig(p.N)
		case 'm':
			s += zig(p.M)
		case 's':
			s += writtenText(p.S)
		case 't':
			s += head(uint64(len(p.Set)))
			for _, x := range p.Set {
				s += writtenText(x)
			}
		}
	}
	return s
}

// reader is what the other reckoning of Decode reads by: it keeps the first refusal, and reads nothing behind it.
type reader struct {
	rest string
	why  api.Errno
}

func (r *reader) refuse(bad bool, why api.Errno) {
	if bad && r.why == api.OK {
		r.why = why
	}
}

func (r *reader) number() uint64 {
	r.refuse(!strings.ContainsFunc(r.rest, func(c rune) bool { return c < 128 }), api.ErrEnd)
	// Uvarint takes more than one writing of a number.
	n, size := binary.Uvarint([]byte(r.rest))
	r.refuse(size <= 0 || head(n) != r.rest[:max(size, 0)], api.ErrForm)
	if r.why != api.OK {
		return 0
	}
	r.rest = r.rest[size:]
	return n
}

func (r *reader) signed() int64 {
	n, _ := binary.Varint(binary.AppendUvarint(nil, r.number()))
	return n
}

func (r *reader) text(most uint64) string {
	n := r.number()
	r.refuse(n > most, api.ErrLong)
	r.refuse(n > uint64(len(r.rest)), api.ErrEnd)
	if r.why != api.OK {
		return ""
	}
	s := r.rest[:n]
	r.rest = r.rest[n:]
	return s
}

// count reads how many follow: none, behind a refusal.
func (r *reader) count(most uint64) int {
	n := r.number()
	r.refuse(n > most, api.ErrMany)
	if r.why != api.OK {
		return 0
	}
	return int(n)
}

// part reads a part, its Kids apart, and how many they are.
func (r *reader) part() (api.Pred, int) {
	kind := r.number()
	letters, ok := asks[kind]
	r.refuse(!ok, api.ErrForm)
	p, kids := api.Pred{Kind: int(kind)}, 0
	for _, letter := range letters {
		switch letter {
		case 'k':
			kids = r.count(40)
		case 'o':
			kids = 1
		case 'c':
			p.Col = r.text(12)
		case 'n':
			p.N = r.signed()
		case 'm':
			p.M = r.signed()
		case 's':
			p.S = r.text(40)
		case 't':
			for range r.count(8) {
				p.Set = append(p.Set, r.text(40))
			}
		}
	}
	return p, kids
}

// otherDecode is another reckoning of Decode: parts are laid in one list as they come, and hung below one another in the end.
func otherDecode(s string, at int) (api.Pred, int, api.Errno) {
	if at < 0 || at > len(s) {
		return api.Pred{}, 0, api.ErrArg
	}
	r := &reader{rest: s[at:]}
	var list []api.Pred
	var kids []int
	left := []int{1} // parts that are to come, of each level
	for len(left) > 0 && r.why == api.OK {
		if left[len(left)-1] == 0 {
			left = left[:len(left)-1]
			continue
		}
		left[len(left)-1]--
		r.refuse(len(left) > 6, api.ErrDeep)
		r.refuse(len(list) == 40, api.ErrMany)
		p, n := r.part()
		list, kids, left = append(list, p), append(kids, n), append(left, n)
	}
	if r.why != api.OK {
		return api.Pred{}, 0, r.why
	}
	// From the last part on each one's Kids stand right behind it.
	for i := len(list) - 1; i >= 0; i-- {
		list[i].Kids = slices.Clone(list[i+1 : i+1+kids[i]])
		list = slices.Delete(list, i+1, i+1+kids[i])
	}
	if !otherRight(list[0]) {
		return api.Pred{}, 0, api.ErrForm
	}
	return list[0], len(s) - len(r.rest), api.OK
}

// events answers rows that Right predicates of these tests tell from one another, and some that are not Right.
func events() []api.Row {
	return []api.Row{
		{}, {Time: 3}, {Time: 7}, {Time: 8}, {Time: first}, {Time: last},
		with(text("s", "abc"), number("x", 3)), with(text("s", "a"), number("x", -5), number("y", 5)), with(text("s", ""), number("x", 5)), with(text("s", "ab"), number("y", 0)),
		with(text("x", "ab"), text("y", "")), with(number("s", 5), number("x", 4)), with(number("s", 0)),
		with(api.Cell{Col: "x"}, api.Cell{Col: "y", Kind: 7}, api.Cell{Col: "s", Kind: -1, S: "a"}),
		with(number("x", 3), text("x", "a"), number("x", 9), text("s", "b"), number("s", 1)),
		with(api.Cell{Col: "x", Kind: 1, N: 5, S: "a"}, api.Cell{Col: "s", Kind: 2, N: 5, S: "a"}, api.Cell{Kind: 1, N: 5}),
	}
}

// asked fails unless Eval of p answers for r what the other reckoning does.
func asked(t *testing.T, name string, p api.Pred, r api.Row) {
	t.Helper()
	evaluated(t, name, p, r, otherEval(p, r))
}

// evaluated fails unless Eval answers that.
func evaluated(t *testing.T, name string, p api.Pred, r api.Row, want bool) {
	t.Helper()
	given, givenRow := filled(p), filledRow(r)
	if got := pred.Eval(given, givenRow); got != want {
		t.Errorf("P13.2: Eval(%v, %v), %s: %v", p, r, name, got)
	}
	if got := pred.Eval(emptied(p), r); got != want {
		t.Errorf("R4: Eval(%v, %v), with empty lists, %s: %v", p, r, name, got)
	}
	untouched(t, given, p)
	untouchedRow(t, givenRow, r)
}

// measured fails unless Size and Cols of p answer that.
func measured(t *testing.T, name string, p api.Pred, size int, cols []string) {
	t.Helper()
	given := filled(p)
	if got := pred.Size(given); got != size || pred.Size(emptied(p)) != size {
		t.Errorf("P13.1: Size(%.200s), %s: %d, want %d", fmt.Sprint(p), name, got, size)
	}
	if got := pred.Cols(given); !slices.Equal(got, cols) || !slices.Equal(pred.Cols(emptied(p)), cols) {
		t.Errorf("P13.1: Cols(%.200s), %s: %q, want %q", fmt.Sprint(p), name, got, cols)
	}
	untouched(t, given, p)
}

// simplified fails unless Normal of p answers that, as true as p, and itself when it is made normal.
func simplified(t *testing.T, name string, p, want api.Pred) {
	t.Helper()
	given := filled(p)
	got := pred.Normal(given)
	if !same(got, want) || !same(pred.Normal(emptied(p)), want) {
		t.Errorf("P13.3: Normal(%v), %s: %v, want %v", p, name, got, want)
	}
	if again := pred.Normal(got); !same(again, got) {
		t.Errorf("P13.5: Normal of Normal(%v), %s: %v, want %v", p, name, again, got)
	}
	for _, r := range events() {
		if pred.Eval(p, r) != pred.Eval(got, r) {
			t.Errorf("P13.5: Normal(%v), %s: %v, unlike for %v", p, name, got, r)
		}
	}
	untouched(t, given, p)
}

// judged fails unless Right and Encode of p answer that; the other calls are held against other reckonings.
func judged(t *testing.T, name string, p api.Pred, want bool) {
	t.Helper()
	given := filled(p)
	if pred.Right(given) != want || pred.Right(emptied(p)) != want {
		t.Errorf("P13.1: Right(%v), %s: %v", p, name, !want)
	}
	b, why := pred.Encode(given)
	if want && (string(b) != written(p) || why != api.OK) {
		t.Errorf("P13.4: Encode(%v), %s: %x, %d, want %x", p, name, b, why, written(p))
	}
	if !want && (len(b) != 0 || why != api.ErrForm) {
		t.Errorf("P13.4: Encode(%v), %s: %x, %d, want ErrForm", p, name, b, why)
	}
	untouched(t, given, p)
	measured(t, name, p, len(slices.Concat(parts(p)...)), otherCols(p))
	if want {
		simplified(t, name, p, otherNormal(p))
	} else {
		simplified(t, name, p, p)
	}
	for _, r := range events() {
		asked(t, name, p, r)
	}
}

// decoded fails unless Decode of s at at answers that.
func decoded(t *testing.T, name, s string, at int, want api.Pred, wantEnd int, wantWhy api.Errno) {
	t.Helper()
	b := filledBytes(s)
	p, end, why := pred.Decode(b, at)
	if !same(p, want) || end != wantEnd || why != wantWhy {
		t.Errorf("P13.4: Decode(%.80x, %d), %s: %v, %d, %d, want %v, %d, %d", s, at, name, p, end, why, want, wantEnd, wantWhy)
	}
	untouchedBytes(t, b, s)
}

// refused fails unless Decode of s at at answers that refusal and nothing else.
func refused(t *testing.T, name, s string, at int, want api.Errno) {
	t.Helper()
	decoded(t, name, s, at, api.Pred{}, 0, want)
}

// right fails unless p is Right, and is read as it was written.
func right(t *testing.T, name string, p api.Pred) {
	t.Helper()
	judged(t, name, p, true)
	s := written(p)
	decoded(t, name, s, 0, p, len(s), api.OK)
	decoded(t, name+", behind others", "zz"+s, 2, p, len(s)+2, api.OK)
	decoded(t, name+", among others", "\x80"+s+"\x80\x00", 1, p, len(s)+1, api.OK)
	for n := range len(s) {
		refused(t, name+", cut", s[:n], 0, api.ErrEnd)
		refused(t, name+", cut, behind others", "\x80"+s[:n], 1, api.ErrEnd)
	}
}

// wrong fails unless p is not Right.
func wrong(t *testing.T, name string, p api.Pred) {
	t.Helper()
	judged(t, name, p, false)
}

// wrongAsRead fails unless p is not Right, nor its bytes.
func wrongAsRead(t *testing.T, name string, p api.Pred, why api.Errno) {
	t.Helper()
	wrong(t, name, p)
	refused(t, name, written(p), 0, why)
	refused(t, name+", behind others", "zz"+written(p)+"z", 2, why)
}

// places lays p alone, below each Kind that has Kids, among others and far below.
func places(p api.Pred) []api.Pred {
	return []api.Pred{
		p, every(p), some(p), not(p), every(null("x"), p), every(p, null("x")), some(null("x"), p, null("y")), not(not(p)), not(every(p, p)),
		some(every(), every(not(p), between(1, 2))), every(some(), every(some(p))),
	}
}

func TestTheChaptersRun(t *testing.T) {
	simplified(t, "the chapter's", not(every(null("x"), not(null("y")))), some(not(null("x")), null("y")))
	for _, r := range events() {
		evaluated(t, "All of none", every(), r, true)
		evaluated(t, "Any of none", some(), r, false)
	}
	for _, n := range []int64{0, 5, first, last} {
		evaluated(t, "Less of a null", less("x", n), api.Row{}, false)
		evaluated(t, "Not of Less of a null", not(less("x", n)), api.Row{}, true)
		evaluated(t, "Not of Less of a null", not(less("x", n)), with(number("y", 0)), true)
	}
}

func TestEachKindIsRight(t *testing.T) {
	for _, p := range ones() {
		for _, q := range places(p) {
			right(t, "one of each Kind", q)
		}
	}
	right(t, "all Kinds", every(ones()...))
	right(t, "all Kinds", not(some(ones()...)))
	for _, n := range []int64{0, 1, -1, 63, 64, -64, -65, 1 << 40, 1<<40 + 1, -1<<40 - 1, first, first + 1, last, last - 1} {
		for _, p := range []api.Pred{less("x", n), equal("x", n), between(n, 0), between(0, n), between(n, n), between(n, -n), between(first, n), between(n, last)} {
			right(t, "numbers", p)
			right(t, "numbers, below others", some(null("a"), not(p)))
		}
	}
	right(t, "N above M", between(5, 1))
}

// strange answers p with what it does not ask set, one field after the other.
func strange(p api.Pred) []api.Pred {
	var out []api.Pred
	for _, letter := range "cnmstk" {
		if strings.ContainsRune(asks[uint64(p.Kind)], letter) || letter == 'k' && p.Kind == api.Not {
			continue
		}
		a, b := p, p
		switch letter {
		case 'c':
			a.Col, b.Col = "x", "X"
		case 'n':
			a.N, b.N = 1, first
		case 'm':
			a.M, b.M = -1, 1<<32
		case 's':
			a.S, b.S = "a", "\x00"
		case 't':
			a.Set, b.Set = []string{""}, []string{"a", "b"}
		case 'k':
			a.Kids, b.Kids = []api.Pred{every()}, []api.Pred{null("x"), {}}
		}
		out = append(out, a, b)
	}
	return out
}

func TestWhatAPartDoesNotAsk(t *testing.T) {
	for _, p := range ones() {
		for _, q := range strange(p) {
			for _, q := range places(q) {
				wrong(t, "a field that is not asked", q)
			}
			for _, q := range strange(q) {
				if !otherRight(q) {
					wrong(t, "two fields that are not asked", q)
				}
			}
		}
	}
}

func TestKinds(t *testing.T) {
	for _, kind := range []int{0, 11, 12, 13, -1, -2, 128, 255, 256, 257, 258, 259, 265, 266, 1 << 32, 1<<32 + 1, 1<<32 + 9, math.MinInt, math.MinInt + 1, math.MinInt + 9, math.MaxInt} {
		for _, p := range places(api.Pred{Kind: kind}) {
			wrongAsRead(t, "a Kind that is none", p, api.ErrForm)
		}
		for _, p := range ones() {
			p.Kind = kind
			wrong(t, "a Kind that is none, with the fields of one", p)
			wrong(t, "a Kind that is none, with the fields of one, below others", some(every(), p))
		}
	}
	wrong(t, "the zero predicate", api.Pred{})
}

func TestNots(t *testing.T) {
	wrong(t, "no Kid", not())
	wrong(t, "two Kids", not(every(), every()))
	wrong(t, "two unlike Kids", not(null("x"), null("y")))
	wrong(t, "two unlike Kids", not(null("y"), null("x")))
	wrong(t, "three Kids", not(some(), every(), every()))
	wrong(t, "no Kid below", not(not()))
	for _, p := range places(not()) {
		wrong(t, "a Not without Kids", p)
	}
	for _, p := range places(not(some(), null("x"))) {
		wrong(t, "a Not of two Kids", p)
	}
}

func TestDeep(t *testing.T) {
	for _, leaf := range append(ones()[:2], ones()[3:]...) {
		for _, kind := range []int{api.All, api.Any, api.Not} {
			for n := range 6 {
				right(t, "so deep", under(kind, n, leaf))
			}
			for n := 6; n < 10; n++ {
				wrongAsRead(t, "too deep", under(kind, n, leaf), api.ErrDeep)
			}
			for _, other := range []int{api.All, api.Any, api.Not} {
				right(t, "six deep, of two Kinds", under(kind, 3, under(other, 2, leaf)))
				wrongAsRead(t, "seven deep, of two Kinds", under(kind, 2, under(other, 4, leaf)), api.ErrDeep)
			}
		}
	}
	right(t, "six deep, the first Kid", every(under(api.Not, 4, null("x")), null("y")))
	right(t, "six deep, the last Kid", every(null("y"), under(api.Not, 4, null("x"))))
	wrongAsRead(t, "seven deep, the first Kid", every(under(api.Not, 5, null("x")), null("y")), api.ErrDeep)
	wrongAsRead(t, "seven deep, the last Kid", every(null("y"), under(api.Not, 5, null("x"))), api.ErrDeep)
}

func TestParts(t *testing.T) {
	for _, n := range []int{0, 1, 2, 20, 37, 38} {
		right(t, "an All of so many", every(times(n, null("x"))...))
		right(t, "an Any of so many", some(times(n, every())...))
		right(t, "a Not of so many", not(some(times(n, null("x"))...)))
	}
	right(t, "forty parts, in one list", every(times(39, null("x"))...))
	right(t, "forty parts, in one list", some(times(39, some())...))
	for _, n := range []int{40, 41, 42, 255, 256, 257, 300} {
		wrongAsRead(t, "too many parts, in one list", every(times(n, null("x"))...), api.ErrMany)
		wrongAsRead(t, "too many parts, in one list", some(times(n, every())...), api.ErrMany)
		wrongAsRead(t, "too many parts, below a Not", not(some(times(n-1, null("x"))...)), api.ErrMany)
	}
	right(t, "forty parts, in several lists", every(some(times(12, null("x"))...), some(times(12, null("y"))...), some(times(12, null("z"))...)))
	wrongAsRead(t, "41 parts, in several lists", every(some(times(12, null("x"))...), some(times(12, null("y"))...), some(times(13, null("z"))...)), api.ErrMany)
	wrongAsRead(t, "41 parts, the last a list", every(some(times(37, null("x"))...), every(every())), api.ErrMany)
	wrongAsRead(t, "41 parts, by a Not", every(append(times(38, null("x")), not(null("x")))...), api.ErrMany)
	right(t, "forty parts, by a Not", every(append(times(37, null("x")), not(null("x")))...))
	right(t, "forty parts, by Nots", every(append(times(19, not(null("x"))), null("y"))...))
	wrongAsRead(t, "41 parts, by Nots", every(times(20, not(null("x")))...), api.ErrMany)
}

func TestTexts(t *testing.T) {
	for _, s := range []string{"", "a", "\x00", "\xff", "\x80\x80", "é", "A b", strings.Repeat("x", 39), strings.Repeat("x", 40), strings.Repeat("\xff", 40)} {
		for _, p := range []api.Pred{is("s", s), prefix("s", s), in("s", s), in("s", s, "\xff\xff"+s[min(len(s), 2):])} {
			if len(p.Set) == 2 && p.Set[0] == p.Set[1] {
				continue
			}
			right(t, "a text", p)
			right(t, "a text, below others", some(null("a"), not(p)))
		}
	}
	for _, size := range []int{41, 42, 80, 127, 128, 256, 256 + 5, 1 << 16} {
		long := strings.Repeat("x", size)
		for _, p := range []api.Pred{is("s", long), prefix("s", long), in("s", long), in("s", "a", long), in("s", long, "y"), in("s", "", "a", "b", "c", "d", "e", "f", long)} {
			wrongAsRead(t, "a long text", p, api.ErrLong)
			wrongAsRead(t, "a long text, below others", some(null("a"), not(p)), api.ErrLong)
		}
	}
}

func TestSets(t *testing.T) {
	for size := range 12 {
		if size <= 8 {
			right(t, "so many texts", in("s", letters(size)...))
			right(t, "so many texts, below others", some(null("a"), not(in("s", letters(size)...))))
		} else {
			wrongAsRead(t, "so many texts", in("s", letters(size)...), api.ErrMany)
			wrongAsRead(t, "so many texts, below others", some(null("a"), not(in("s", letters(size)...))), api.ErrMany)
		}
	}
	for _, l := range [][]string{{"a", "b"}, {"", "a"}, {"a", "aa"}, {"aa", "b"}, {"a", "a\x00"}, {"A", "a"}, {"\x7f", "\x80"}, {"z", "é"}, {"\x00", "\xff"}, {"10", "9"}, {"a", "ab", "b", "ba"}} {
		right(t, "texts that rise", in("s", l...))
	}
	for _, l := range [][]string{
		{"a", "a"}, {"", ""}, {"b", "a"}, {"a", ""}, {"aa", "a"}, {"b", "aa"}, {"a", "A"}, {"\x80", "\x7f"}, {"é", "z"}, {"9", "10"}, {"a", "b", "b"}, {"a", "a", "b"}, {"a", "c", "b"}, {"b", "a", "c"}, {"a", "b", "a"},
		{"a", "b", "c", "d", "e", "f", "g", "g"}, {"a", "b", "c", "d", "e", "f", "h", "g"}, {"b", "a", "c", "d", "e", "f", "g", "h"},
	} {
		wrongAsRead(t, "texts that don't rise", in("s", l...), api.ErrForm)
		wrongAsRead(t, "texts that don't rise, below others", some(null("a"), not(in("s", l...))), api.ErrForm)
	}
}

func TestNames(t *testing.T) {
	for _, s := range []string{"a", "z", "table", "abcdefghijkl", "zzzzzzzzzzzz"} {
		for _, p := range []api.Pred{less(s, 1), equal(s, 1), is(s, "x"), in(s, "x"), prefix(s, "x"), null(s)} {
			right(t, "a name", p)
			right(t, "a name, below others", every(null("a"), not(p)))
		}
	}
	for _, s := range []string{"", "A", "Z", "`", "{", "_", "a1", "a\x00", "\xff", "é", "abcdefghijkZ", "aB"} {
		for _, p := range []api.Pred{less(s, 1), equal(s, 1), is(s, "x"), in(s, "x"), in(s), prefix(s, "x"), null(s)} {
			wrongAsRead(t, "no name", p, api.ErrForm)
			wrongAsRead(t, "no name, below others", every(null("a"), not(p)), api.ErrForm)
			wrongAsRead(t, "no name, ahead of others", every(p, null("a")), api.ErrForm)
		}
	}
	for _, s := range []string{"abcdefghijklm", strings.Repeat("a", 24), strings.Repeat("z", 300), strings.Repeat("A", 13), strings.Repeat("a", 256+5)} {
		for _, p := range []api.Pred{less(s, 1), equal(s, 1), is(s, "x"), in(s, "x"), prefix(s, "x"), null(s)} {
			wrongAsRead(t, "a long name", p, api.ErrLong)
			wrongAsRead(t, "a long name, below others", every(null("a"), not(p)), api.ErrLong)
		}
	}
}

func TestSizeAndCols(t *testing.T) {
	for _, c := range []struct {
		name string
		p    api.Pred
		size int
		cols []string
	}{
		{"the zero predicate", api.Pred{}, 1, nil},
		{"All of none", every(), 1, nil},
		{"no column", between(1, 2), 1, nil},
		{"one", null("x"), 1, []string{"x"}},
		{"a Not", not(is("s", "x")), 2, []string{"s"}},
		{"a name twice", every(null("x"), less("x", 5)), 3, []string{"x"}},
		{"a name at three depths", every(null("x"), some(less("x", 5), not(is("x", "a")))), 6, []string{"x"}},
		{"names that fall", every(null("c"), null("b"), null("a")), 4, []string{"a", "b", "c"}},
		{"names among others", every(less("y", 1), some(is("x", "a"), between(1, 2)), null("a"), null("x")), 7, []string{"a", "x", "y"}},
		{"names that begin alike", some(null("ab"), null("a"), null("abc"), null("b"), null("aa")), 6, []string{"a", "aa", "ab", "abc", "b"}},
		{"each Kind", every(less("f", 1), equal("e", 1), is("d", ""), in("c"), prefix("b", ""), null("a"), not(between(0, 1))), 9, []string{"a", "b", "c", "d", "e", "f"}},
		{"names that are none", some(null("Z"), null("a"), null("\xff"), null("é"), null("A"), null("")), 7, []string{"A", "Z", "a", "é", "\xff"}},
		{"a Not without Kids", not(), 1, nil},
		{"a Not of three", not(null("c"), null("a"), null("b")), 4, []string{"a", "b", "c"}},
		{"a Kind that is none", api.Pred{Kind: 99, Col: "x"}, 1, []string{"x"}},
		{"Kids where they are not asked", api.Pred{Kind: api.Null, Col: "x", Kids: []api.Pred{null("w"), {Kind: 0, Kids: []api.Pred{null("v")}}}}, 4, []string{"v", "w", "x"}},
		{"a name where it is not asked", api.Pred{Kind: api.All, Col: "x", Kids: []api.Pred{null("w")}}, 2, []string{"w", "x"}},
		{"a Set is no part", in("s", letters(20)...), 1, []string{"s"}},
	} {
		measured(t, c.name, c.p, c.size, c.cols)
		measured(t, c.name+", below others", some(between(1, 2), not(c.p)), c.size+3, c.cols)
	}
}

func TestNumbersAreAsked(t *testing.T) {
	numbers := []int64{first, first + 1, -1 << 40, -2, -1, 0, 1, 2, 1 << 31, 1 << 32, 1 << 40, last - 1, last}
	for i, n := range numbers {
		for k, m := range numbers {
			r := with(number("a", 0), number("x", n), text("y", "z"))
			evaluated(t, "below?", less("x", m), r, i < k)
			evaluated(t, "the same?", equal("x", m), r, i == k)
			evaluated(t, "a Text", less("y", m), r, false)
			evaluated(t, "a Text", equal("y", m), r, false)
			evaluated(t, "a null", less("z", m), r, false)
			evaluated(t, "a null", equal("z", m), r, false)
			evaluated(t, "not below?", not(less("x", m)), r, i >= k)
			evaluated(t, "not a Text", not(equal("y", m)), r, true)
			for j, o := range numbers {
				evaluated(t, "between?", between(m, o), api.Row{Time: n, Seq: 9}, k <= i && i <= j)
			}
		}
	}
	for _, kind := range []int{0, 2, 3, -1, 257, 1<<32 + 1} {
		r := with(api.Cell{Col: "x", Kind: kind, N: 5})
		evaluated(t, "a cell of another Kind", less("x", 9), r, false)
		evaluated(t, "a cell of another Kind", equal("x", 5), r, false)
	}
	evaluated(t, "an Int with a text", equal("x", 5), with(api.Cell{Col: "x", Kind: api.Int, N: 5, S: "a"}), true)
}

func TestBetween(t *testing.T) {
	for time, want := range map[int64]bool{2: false, 3: true, 4: true, 6: true, 7: true, 8: false, -5: false, first: false, last: false} {
		evaluated(t, "from 3 to 7", between(3, 7), api.Row{Time: time}, want)
		evaluated(t, "from 7 to 3", between(7, 3), api.Row{Time: time}, false)
		evaluated(t, "not from 3 to 7", not(between(3, 7)), api.Row{Time: time}, !want)
		evaluated(t, "just then", between(time, time), api.Row{Time: time}, true)
		evaluated(t, "at any time", between(first, last), api.Row{Time: time}, true)
	}
	evaluated(t, "cells don't matter", between(3, 7), with(number("x", 99), number("", 99)), true)
	evaluated(t, "nor does Seq", between(3, 7), api.Row{Time: 5, Seq: 99}, true)
}

func TestTextsAreAsked(t *testing.T) {
	texts := []string{"", "\x00", "a", "a\x00", "ab", "abc", "abd", "b", "A", "é", "\xc3", "\xff", "\xff\xff", strings.Repeat("x", 40), strings.Repeat("x", 41)}
	for i, s := range texts {
		r := with(text("s", s), number("x", 0))
		for k, x := range texts {
			evaluated(t, "the same?", is("s", x), r, i == k)
			evaluated(t, "one of one?", in("s", x), r, i == k)
			evaluated(t, "the last of three?", in("s", "q", "r", x), r, i == k)
			evaluated(t, "the first of three, none in order?", in("s", x, "r", "q"), r, i == k)
			evaluated(t, "begins with?", prefix("s", x), r, len(x) <= len(s) && s[:len(x)] == x)
			for _, kind := range []int{api.Is, api.Prefix, api.In} {
				p := api.Pred{Kind: kind, Col: "x", S: x, Set: []string{x}}
				evaluated(t, "an Int", p, r, false)
				p.Col = "y"
				evaluated(t, "a null", p, r, false)
				evaluated(t, "not a null", not(p), r, true)
			}
		}
		evaluated(t, "one of all?", in("s", texts...), r, true)
		evaluated(t, "one of none?", in("s"), r, false)
		evaluated(t, "begins with nothing?", prefix("s", ""), r, true)
		evaluated(t, "not what the Set asks", api.Pred{Kind: api.Is, Col: "s", S: s, Set: []string{"q"}}, r, true)
		evaluated(t, "not what S asks", api.Pred{Kind: api.In, Col: "s", S: s, Set: []string{"q"}}, r, false)
	}
	for _, kind := range []int{0, 1, 3, -1, 258, 1<<32 + 2} {
		r := with(api.Cell{Col: "s", Kind: kind, S: "a"})
		for _, p := range []api.Pred{is("s", "a"), in("s", "a"), prefix("s", "a"), prefix("s", ""), is("s", "")} {
			evaluated(t, "a cell of another Kind", p, r, false)
		}
	}
	evaluated(t, "a Text with a number", is("s", "a"), with(api.Cell{Col: "s", Kind: api.Text, N: 5, S: "a"}), true)
}

func TestNullsAreAsked(t *testing.T) {
	r := with(number("a", 0), text("b", ""), api.Cell{Col: "c"}, api.Cell{Col: "d", Kind: 7}, api.Cell{Col: "e", Kind: -1}, api.Cell{Kind: api.Int}, api.Cell{Col: "f", N: 5, S: "x"})
	for col, want := range map[string]bool{"a": false, "b": false, "c": true, "d": false, "e": false, "f": true, "": false, "g": true, "A": true, "aa": true, "n": true} {
		evaluated(t, "is it null?", null(col), r, want)
		evaluated(t, "is it not null?", not(null(col)), r, !want)
	}
	evaluated(t, "a row without cells", null("a"), api.Row{}, true)
	evaluated(t, "a row with an empty list", null("a"), api.Row{Cells: []api.Cell{}}, true)
	evaluated(t, "the first of two", null("a"), with(number("a", 1), api.Cell{Col: "a"}), false)
	evaluated(t, "the first of two", null("a"), with(api.Cell{Col: "a"}, number("a", 1)), true)
	evaluated(t, "the first of two", equal("a", 1), with(number("a", 1), number("a", 2)), true)
	evaluated(t, "the first of two", equal("a", 2), with(number("a", 1), number("a", 2)), false)
}

func TestKidsAreAsked(t *testing.T) {
	truths := map[bool]api.Pred{true: equal("x", 3), false: equal("x", 4)}
	r := with(number("x", 3))
	for size := range 6 {
		for mask := range 1 << size {
			var kids []api.Pred
			for i := range size {
				kids = append(kids, truths[mask>>i&1 == 1])
			}
			evaluated(t, "each Kid?", every(kids...), r, mask == 1<<size-1)
			evaluated(t, "some Kid?", some(kids...), r, mask != 0)
			evaluated(t, "not the first Kid?", not(kids...), r, size > 0 && mask&1 == 0)
			evaluated(t, "not each Kid?", not(every(kids...)), r, mask != 1<<size-1)
			evaluated(t, "not some Kid?", not(some(kids...)), r, mask == 0)
		}
	}
	for _, kind := range []int{0, 11, -1, 99, 257, 258, 259, 1<<32 + 1, math.MinInt + 1, math.MaxInt} {
		p := api.Pred{Kind: kind, Col: "x", N: 3, Kids: []api.Pred{every()}}
		evaluated(t, "a Kind that is none", p, r, false)
		evaluated(t, "a Not of it", not(p), r, true)
		evaluated(t, "an All of it", every(every(), p), r, false)
		evaluated(t, "an Any of it", some(p, every()), r, true)
	}
	evaluated(t, "a Not of a Not without Kids", not(not()), r, true)
	evaluated(t, "Kids where they are not asked", api.Pred{Kind: api.Equal, Col: "x", N: 3, Kids: []api.Pred{some()}}, r, true)
	evaluated(t, "a name where it is not asked", api.Pred{Kind: api.All, Col: "x", N: 4}, r, true)
}

func TestNormal(t *testing.T) {
	x, y, z := null("x"), less("y", 5), in("s", "a", "b")
	for _, c := range []struct {
		name    string
		p, want api.Pred
	}{
		{"a Not of a part without Kids", not(z), not(z)},
		{"a Not of a Not", not(not(z)), z},
		{"three Nots", not(not(not(z))), not(z)},
		{"four Nots", not(not(not(not(z)))), z},
		{"five Nots", not(not(not(not(not(z))))), not(z)},
		{"a Not of All", not(every(x, y, z)), some(not(x), not(y), not(z))},
		{"a Not of Any", not(some(x, y, z)), every(not(x), not(y), not(z))},
		{"a Not of All of Nots", not(every(not(x), y)), some(x, not(y))},
		{"a Not of All of none", not(every()), some()},
		{"a Not of Any of none", not(some()), every()},
		{"a Not of a Not of All", not(not(every(x, y))), every(x, y)},
		{"a Not of All of Any", not(every(x, some(y, z))), some(not(x), every(not(y), not(z)))},
		{"a Not of Any of All", not(some(every(x, y), z)), every(some(not(x), not(y)), not(z))},
		{"an All of none", every(), every()},
		{"an Any of none", some(), some()},
		{"an All of one", every(z), z},
		{"an Any of one", some(z), z},
		{"an All of two", every(z, x), every(z, x)},
		{"an All of two alike", every(x, x), every(x, x)},
		{"an All of one, thrice", every(every(every(x))), x},
		{"All, Any of one", every(some(every(some(x)))), x},
		{"an All in an All, first", every(every(x, y), z), every(x, y, z)},
		{"an All in an All, last", every(x, every(y, z)), every(x, y, z)},
		{"an All in an All, between", every(x, every(y, z), x), every(x, y, z, x)},
		{"two Alls in an All", every(every(x, y), every(z, x)), every(x, y, z, x)},
		{"an Any in an Any", some(x, some(y, z)), some(x, y, z)},
		{"an Any in an All", every(x, some(y, z)), every(x, some(y, z))},
		{"an All in an Any", some(every(x, y), z), some(every(x, y), z)},
		{"Alls in one another", every(every(every(every(x, y), z), x), y), every(x, y, z, x, y)},
		{"an All of none in an All", every(x, every(), y), every(x, y)},
		{"an All of none in an All of one", every(x, every()), x},
		{"an All of All of none", every(every()), every()},
		{"an All of two Alls of none", every(every(), every()), every()},
		{"an Any of Alls of none", some(every(), every()), some(every(), every())},
		{"an Any of an All of none", some(every()), every()},
		{"an All of Any of All", every(some(every(x, y))), every(x, y)},
		{"an Any of one that is an All, in an All", every(z, some(every(x, y))), every(z, x, y)},
		{"an All of one that is an Any, in an Any", some(every(some(x, y)), z), some(x, y, z)},
		{"an All in an All behind a Not of a Not", every(x, not(not(every(y, z)))), every(x, y, z)},
		{"a Not of Any in an All", every(x, not(some(y, z))), every(x, not(y), not(z))},
		{"a Not of All in an Any", some(not(every(x, y)), z), some(not(x), not(y), z)},
		{"a Not of All in an All", every(x, not(every(y, z))), every(x, some(not(y), not(z)))},
		{"a Not of All of Not of Any", not(every(x, not(some(y, z)))), some(not(x), y, z)},
		{"a Not of All of one", not(every(x)), not(x)},
		{"a Not of All of one Not", not(every(not(x))), x},
		{"a Not of Any of none in an All", every(x, not(some())), x},
		{"a Not of All of none in an All", every(x, not(every())), every(x, some())},
		{"six deep", every(x, not(every(y, not(every(x, z))))), every(x, some(not(y), every(x, z)))},
	} {
		simplified(t, c.name, c.p, c.want)
		if !same(otherNormal(c.p), c.want) {
			t.Errorf("the other reckoning of Normal, %s: %v", c.name, otherNormal(c.p))
		}
		right(t, c.name, c.p)
	}
	for _, p := range ones() {
		simplified(t, "one of each Kind", p, p)
	}
}

// A normal form may have more parts than it is of, and is then not Right; it is itself nevertheless.
func TestNormalGrows(t *testing.T) {
	p := not(every(times(38, null("x"))...))
	want := some(times(38, not(null("x")))...)
	right(t, "a Not of many", p)
	simplified(t, "a Not of many", p, want)
	wrong(t, "what it becomes", want)
	if got := pred.Size(pred.Normal(p)); got != 77 {
		t.Errorf("P13.3: Normal of forty parts has %d, want 77", got)
	}
}

func TestNormalOfWhatIsNotRight(t *testing.T) {
	for _, p := range []api.Pred{
		{}, {Kind: 11}, not(), not(null("x"), null("y")), not(not()), not(not(null("X"))), every(every(null("X"))), some(some(null("x"), null("y")), in("s", "b", "a")),
		not(every(null("x"), not(null("abcdefghijklm")))), under(api.All, 6, null("x")), under(api.Not, 6, every()), every(every(times(39, null("x"))...)),
		{Kind: api.All, N: 1, Kids: []api.Pred{every(null("x"))}}, {Kind: api.Not, Set: []string{"b", "a"}, Kids: []api.Pred{not(in("s", "a"))}},
		{Kind: api.Null, Col: "x", Kids: []api.Pred{not(not(null("y")))}}, {Kind: 99, Col: "A", N: 1, M: 2, S: "s", Set: []string{"z", "a", "z"}, Kids: []api.Pred{{Kind: -1, Set: []string{"q"}}, every(every())}},
	} {
		simplified(t, "not Right", p, p)
	}
}

func TestEncode(t *testing.T) {
	for _, c := range []struct {
		p    api.Pred
		want string
	}{
		{every(), "\x01\x00"},
		{some(), "\x02\x00"},
		{every(some(), every()), "\x01\x02\x02\x00\x01\x00"},
		{not(every()), "\x03\x01\x00"},
		{less("x", -1), "\x04\x01x\x01"},
		{equal("xy", 64), "\x05\x02xy\x80\x01"},
		{is("s", "a\xff"), "\x06\x01s\x02a\xff"},
		{is("s", ""), "\x06\x01s\x00"},
		{in("s"), "\x07\x01s\x00"},
		{in("s", "", "a", "bc"), "\x07\x01s\x03\x00\x01a\x02bc"},
		{prefix("abcdefghijkl", strings.Repeat("q", 40)), "\x08\x0cabcdefghijkl\x28" + strings.Repeat("q", 40)},
		{null("z"), "\x09\x01z"},
		{between(3, -3), "\x0a\x06\x05"},
		{between(first, last), "\x0a\xff\xff\xff\xff\xff\xff\xff\xff\xff\x01\xfe\xff\xff\xff\xff\xff\xff\xff\xff\x01"},
		{every(less("x", -1), not(in("s", "a", "bc")), between(3, -3), prefix("s", "q"), null("z")), "\x01\x05\x04\x01x\x01\x03\x07\x01s\x02\x01a\x02bc\x0a\x06\x05\x08\x01s\x01q\x09\x01z"},
		{every(times(39, some())...), "\x01\x27" + strings.Repeat("\x02\x00", 39)},
	} {
		if b, why := pred.Encode(c.p); string(b) != c.want || why != api.OK {
			t.Errorf("P13.4: Encode(%v): %x, %d, want %x", c.p, b, why, c.want)
		}
		right(t, "by hand", c.p)
	}
}

func TestPredicatesBehindOneAnother(t *testing.T) {
	l := append(ones(), every(ones()...), not(some(null("x"))), under(api.Not, 5, null("x")), every(times(39, null("x"))...), every())
	var b []byte
	for _, p := range l {
		one, why := pred.Encode(p)
		if why != api.OK {
			t.Fatalf("P13.4: Encode(%v): %d", p, why)
		}
		b = append(b, one...)
	}
	at := 0
	for _, want := range l {
		p, end, why := pred.Decode(b, at)
		if !same(p, want) || why != api.OK {
			t.Fatalf("P13.4: Decode at %d: %v, %d, want %v", at, p, why, want)
		}
		at = end
	}
	if at != len(b) {
		t.Errorf("P13.4: predicates end at %d, want %d", at, len(b))
	}
	refused(t, "the end of predicates", string(b), at, api.ErrEnd)
}

// greats answers numbers that an int does not bear, or that would be small ones if bits were lost.
func greats() []uint64 {
	return []uint64{256, 257, 259, 1 << 31, 1 << 32, 1<<32 + 1, 1<<32 + 3, 1<<32 + 9, math.MaxInt64, 1 << 63, 1<<63 + 1, 1<<63 + 3, 1<<63 + 9, math.MaxUint64}
}

func TestDecodesRefusals(t *testing.T) {
	eleven := strings.Repeat("\x80", 10) + "\x01"
	great := strings.Repeat("\xff", 9) + "\x02"
	// Each number of a predicate in turn, behind what is right.
	for name, ahead := range map[string]string{
		"a Kind": "", "a number of Kids": "\x01", "a number of Any's Kids": "\x02", "a Kid's Kind": "\x01\x01", "a Not's Kid": "\x03", "a second Kid": "\x02\x02\x09\x01x", "a Col's length": "\x04", "a Less's number": "\x04\x01x", "an Equal's number": "\x05\x01x",
		"an Is's text": "\x06\x01x", "a Prefix's text": "\x08\x01x", "a number of texts": "\x07\x01x", "a text of a Set": "\x07\x01x\x02", "a second text": "\x07\x01x\x02\x01a", "a Null's Col": "\x09", "an N": "\x0a", "an M": "\x0a\x00",
	} {
		refused(t, name+" lacks", ahead, 0, api.ErrEnd)
		refused(t, name+" cut off", ahead+"\x81", 0, api.ErrEnd)
		refused(t, name+" cut off, too long", ahead+strings.Repeat("\x80", 30), 0, api.ErrEnd)
		refused(t, name+" in a longer writing", ahead+"\x81\x00", 0, api.ErrForm)
		refused(t, name+" in a longer writing, others behind", ahead+"\x80\x00"+"\x00\x00\x00", 0, api.ErrForm)
		refused(t, name+" of more than 64 bits", ahead+great+"\x00\x00\x00", 0, api.ErrForm)
		refused(t, name+" of eleven bytes", ahead+eleven+"\x00\x00\x00", 0, api.ErrForm)
	}
	for _, n := range append(greats(), 0, 11, 12, 127, 128) {
		for _, ahead := range []string{"", "\x03", "\x01\x02\x01\x00"} {
			refused(t, "a Kind that is none", ahead+head(n), 0, api.ErrForm)
			refused(t, "a Kind that is none, others behind", ahead+head(n)+"\x01x\x01x\x01x", 0, api.ErrForm)
		}
	}
	for _, n := range append(greats(), 41, 42, 127, 128) {
		for _, ahead := range []string{"\x01", "\x02", "\x03\x02", "\x01\x02\x01\x00\x02"} {
			refused(t, "too many Kids", ahead+head(n), 0, api.ErrMany)
			refused(t, "too many Kids, some there", ahead+head(n)+strings.Repeat("\x01\x00", 50), 0, api.ErrMany)
		}
	}
	for _, n := range append(greats(), 9, 10, 40, 41, 128) {
		refused(t, "too many texts", "\x07\x01s"+head(n), 0, api.ErrMany)
		refused(t, "too many texts, some there", "\x07\x01s"+head(n)+"\x01a\x01b\x01c\x01d\x01e\x01f\x01g\x01h\x01i", 0, api.ErrMany)
		refused(t, "too many texts, below others", "\x01\x02\x01\x00\x03\x07\x01s"+head(n), 0, api.ErrMany)
	}
	for _, n := range append(greats(), 13, 14, 40, 41, 128) {
		for _, kind := range "\x04\x05\x06\x07\x08\x09" {
			refused(t, "a name that is too long", string(kind)+head(n)+strings.Repeat("a", 60), 0, api.ErrLong)
			refused(t, "a name that is too long and lacks", string(kind)+head(n), 0, api.ErrLong)
		}
	}
	for _, n := range append(greats(), 41, 42, 128) {
		for _, ahead := range []string{"\x06\x01s", "\x08\x01s", "\x07\x01s\x01", "\x07\x01s\x02\x01a", "\x03\x06\x01s"} {
			refused(t, "a text that is too long", ahead+head(n)+strings.Repeat("a", 60), 0, api.ErrLong)
			refused(t, "a text that is too long and lacks", ahead+head(n), 0, api.ErrLong)
		}
	}
	refused(t, "a name that lacks", "\x09\x0cabcdefghijk", 0, api.ErrEnd)
	refused(t, "a text that lacks", "\x06\x01s\x28"+strings.Repeat("a", 39), 0, api.ErrEnd)
	refused(t, "forty Kids that lack", "\x01\x28", 0, api.ErrEnd)
	refused(t, "eight texts that lack", "\x07\x01s\x08", 0, api.ErrEnd)
}

// refusal is one that Decode is to answer, of several that apply.
type refusal struct {
	name, s string
	at      int
	want    api.Errno
}

func refusedInOrder(t *testing.T, l []refusal) {
	t.Helper()
	for _, c := range l {
		refused(t, c.name, c.s, c.at, c.want)
		holdBytes(t, c.s, c.at)
	}
}

func TestTheOrderOfDecodesBounds(t *testing.T) {
	five := "\x03\x03\x03\x03\x03"
	full := "\x01\x28" + strings.Repeat("\x01\x00", 39) // forty parts, and one to come
	decoded(t, "six deep, an All of none", five+"\x01\x00", 0, under(api.Not, 5, every()), 7, api.OK)
	refusedInOrder(t, []refusal{
		{"six deep, the last lacks", five, 0, api.ErrEnd},
		{"seven deep, the last lacks", five + "\x03", 0, api.ErrDeep},
		{"seven deep, the last cut off", five + "\x03\x80", 0, api.ErrDeep},
		{"seven deep, the last of a wrong form", five + "\x03\x80\x00", 0, api.ErrDeep},
		{"seven deep, the last of a Kind that is none", five + "\x03\x63", 0, api.ErrDeep},
		{"seven deep by an All, the last lacks", five + "\x01\x01", 0, api.ErrDeep},
		{"seven deep by an Any, the last lacks", five + "\x02\x28", 0, api.ErrDeep},
		{"six deep, a number of Kids lacks", five + "\x01", 0, api.ErrEnd},
		{"six deep, a number of Kids above the most", five + "\x01\x29", 0, api.ErrMany},
		{"six deep, too many texts", five + "\x07\x01s\x09", 0, api.ErrMany},
		{"six deep, a Kind that is none", five + "\x0b", 0, api.ErrForm},
		{"41 parts, the last lacks", full, 0, api.ErrMany},
		{"41 parts, the last cut off", full + "\x80", 0, api.ErrMany},
		{"41 parts, the last of a Kind that is none", full + "\x00", 0, api.ErrMany},
		{"41 parts, the last of a wrong form", full + "\x80\x00", 0, api.ErrMany},
		{"forty parts, one cut off", full[:len(full)-1], 0, api.ErrEnd},
		{"forty parts, the last of a Kind that is none", full[:len(full)-2] + "\x0b", 0, api.ErrForm},
		{"forty parts, the last of too many Kids", full[:len(full)-1] + "\x29", 0, api.ErrMany},
		{"forty parts, the last with a Kid that lacks", full[:len(full)-1] + "\x01", 0, api.ErrMany},
		{"forty parts, the last a Not", full[:len(full)-2] + "\x03", 0, api.ErrMany},
		{"41 parts and seven deep at once", "\x01\x28" + strings.Repeat("\x01\x00", 34) + five, 0, api.ErrDeep},
		{"41 parts, six deep", "\x01\x28" + strings.Repeat("\x01\x00", 35) + five[1:], 0, api.ErrMany},
		{"forty parts, seven deep", "\x01\x28" + strings.Repeat("\x01\x00", 33) + five, 0, api.ErrDeep},
		{"seven deep, then too many texts", five + "\x03\x07\x01s\x09", 0, api.ErrDeep},
		{"too many texts, then seven deep", "\x01\x02\x07\x01s\x09" + five + "\x03", 0, api.ErrMany},
		{"too many Kids, then a Kind that is none", "\x01\x29\x00", 0, api.ErrMany},
		{"too many texts, the first too long", "\x07\x01s\x09\x29", 0, api.ErrMany},
	})
}

func TestTheOrderOfDecodesRefusals(t *testing.T) {
	five := "\x03\x03\x03\x03\x03"
	refusedInOrder(t, []refusal{
		{"a place that is none, and no bytes", "", 1, api.ErrArg},
		{"a place that is none, and a wrong form", "\x80\x00", -1, api.ErrArg},
		{"a place that is none, and a Kind that is none", "\x00", 2, api.ErrArg},
		{"a long name, then too many texts", "\x07\x0dabcdefghijklm\x09", 0, api.ErrLong},
		{"a long name that lacks", "\x09\x0d", 0, api.ErrLong},
		{"no name, then nothing", "\x04\x01X", 0, api.ErrEnd},
		{"no name, then a wrong form", "\x04\x01X\x80\x00", 0, api.ErrForm},
		{"no name, then a long text", "\x06\x01X\x29", 0, api.ErrLong},
		{"no name, then too many texts", "\x07\x01X\x09", 0, api.ErrMany},
		{"no name, then a Kid that lacks", "\x01\x02\x09\x01X", 0, api.ErrEnd},
		{"no name, then a long name", "\x01\x02\x09\x01X\x09\x0d", 0, api.ErrLong},
		{"no name, then too many Kids", "\x01\x02\x09\x01X\x01\x29", 0, api.ErrMany},
		{"no name, then too deep", "\x01\x02\x09\x01X" + five, 0, api.ErrDeep},
		{"no name, then too many parts", "\x01\x28\x09\x01X" + strings.Repeat("\x01\x00", 38), 0, api.ErrMany},
		{"no name, then a Kind that is none", "\x01\x02\x09\x01X\x00", 0, api.ErrForm},
		{"no name", "\x01\x02\x09\x01X\x01\x00", 0, api.ErrForm},
		{"an empty name", "\x09\x00", 0, api.ErrForm},
		{"an empty name, then nothing", "\x04\x00", 0, api.ErrEnd},
		{"texts that fall, a third lacks", "\x07\x01s\x03\x01b\x01a", 0, api.ErrEnd},
		{"texts that fall, a third is too long", "\x07\x01s\x03\x01b\x01a\x29", 0, api.ErrLong},
		{"texts that fall, then a Kid that lacks", "\x01\x02\x07\x01s\x02\x01b\x01a", 0, api.ErrEnd},
		{"texts that fall, then too many Kids", "\x01\x02\x07\x01s\x02\x01b\x01a\x02\x29", 0, api.ErrMany},
		{"texts that fall", "\x07\x01s\x02\x01b\x01a", 0, api.ErrForm},
		{"texts alike", "\x07\x01s\x02\x01a\x01a", 0, api.ErrForm},
		{"a Kind that is none, then nothing", "\x01\x02\x00", 0, api.ErrForm},
		{"a Kind that is none, then a long name", "\x01\x02\x0b\x09\x0d", 0, api.ErrForm},
		{"a long name, then a Kind that is none", "\x01\x02\x09\x0d\x00", 0, api.ErrLong},
	})
}

func TestDecodesPlaces(t *testing.T) {
	p := every(less("x", -1), not(in("s", "a", "bc")), between(3, -3))
	s := written(p)
	for _, at := range []int{math.MinInt, math.MinInt + 1, -2, -1, len(s) + 1, len(s) + room, len(s) + room + 1, math.MaxInt} {
		refused(t, "a place that is none", s, at, api.ErrArg)
	}
	refused(t, "the end", s, len(s), api.ErrEnd)
	decoded(t, "a Kid alone", s, 2, less("x", -1), 6, api.OK)
	decoded(t, "one of none at the end", "zz\x01\x00", 2, every(), 4, api.OK)
	decoded(t, "one of none ahead of others", "\x02\x00\x80", 0, some(), 2, api.OK)
	for at := range len(s) {
		holdBytes(t, s, at)
	}
	for _, b := range [][]byte{nil, {}} {
		for at, want := range map[int]api.Errno{0: api.ErrEnd, 1: api.ErrArg, -1: api.ErrArg} {
			if p, end, why := pred.Decode(b, at); !same(p, api.Pred{}) || end != 0 || why != want {
				t.Errorf("R5: Decode of no bytes at %d: %v, %d, %d, want %d", at, p, end, why, want)
			}
		}
	}
}

// holdBytes fails unless Decode of s answers what the other reckoning does, and Encode answers what was read.
func holdBytes(t *testing.T, s string, at int) {
	t.Helper()
	want, wantEnd, why := otherDecode(s, at)
	decoded(t, "any bytes", s, at, want, wantEnd, why)
	if why != api.OK {
		return
	}
	if b, why := pred.Encode(want); string(b) != s[at:wantEnd] || why != api.OK {
		t.Errorf("P13.4: Encode of what was read of %x at %d: %x, %d", s, at, b, why)
	}
}

// many answers predicates of every kind that are Right.
func many() []api.Pred {
	return append(ones(), every(ones()...), not(some(ones()...)), under(api.Not, 5, null("x")), under(api.All, 5, in("s", "", "a")), some(times(39, every())...),
		every(in("abcdefghijkl", letters(8)...), not(every(is("s", strings.Repeat("\xff", 40)), in("t", "\x80", "\x80\x00")))), between(first, last), every(some(in("a", "x"), in("b", "y")), not(in("c", "z"))))
}

func TestEachByteTurned(t *testing.T) {
	for _, p := range many() {
		s := written(p)
		for i := range s {
			for x := range 256 {
				b := []byte(s)
				b[i] = byte(x)
				holdBytes(t, string(b), 0)
				holdBytes(t, string(b)+"\x00\x00", 0)
			}
		}
	}
}

func TestBytesOfEveryKind(t *testing.T) {
	r := rand.New(rand.NewSource(1))
	pieces := []string{"\x00", "\x01", "\x02", "\x03", "\x03\x03\x03\x03", "\x01\x01\x02\x02\x03", "\x04", "\x05\x01x", "\x06\x01s\x01a", "\x07\x01s", "\x07\x01s\x02\x01a\x01b", "\x08\x01s\x00", "\x09\x01x", "\x09\x01x", "\x0a", "\x0a\x06\x05", "\x0b", "\x01\x00", "\x02\x00", "\x01\x01", "\x01\x02", "\x02\x03", "\x01\x27", "\x01\x28", "\x01\x29", "\x0d", "\x29", "\x01A", "\x7f", "\x80", "\xff", "\x80\x00", "\x80\x01", head(1<<32 + 1), head(1<<63 + 1), strings.Repeat("\x02\x00", 19)}
	told := map[api.Errno]int{}
	for range 150000 {
		s := ""
		for range 1 + r.Intn(10) {
			s += pieces[r.Intn(len(pieces))]
		}
		if r.Intn(8) == 0 {
			s = s[:r.Intn(len(s)+1)]
		}
		holdBytes(t, s, 0)
		holdBytes(t, s, r.Intn(len(s)+4)-2)
		_, _, why := otherDecode(s, 0)
		told[why]++
	}
	for _, why := range []api.Errno{api.OK, api.ErrEnd, api.ErrLong, api.ErrMany, api.ErrDeep, api.ErrForm} {
		if told[why] < 100 {
			t.Errorf("Decode answered %d only %d times", why, told[why])
		}
	}
	small := "\x00\x01\x02\x03\x07\x09ax"
	for i := range 8 * 8 * 8 * 8 * 8 {
		holdBytes(t, string([]byte{small[i%8], small[i/8%8], small[i/64%8], small[i/512%8], small[i/4096]}), 0)
	}
}

// pick answers one of l.
func pick[T any](r *rand.Rand, l ...T) T {
	return l[r.Intn(len(l))]
}

// leaf answers a Right part without Kids.
func leaf(r *rand.Rand) api.Pred {
	switch r.Intn(7) {
	case 0:
		return less(pick(r, "x", "y", "s"), r.Int63n(9)-4)
	case 1:
		return equal(pick(r, "x", "y", "s"), r.Int63n(6))
	case 2:
		return is(pick(r, "s", "s", "x"), pick(r, "", "a", "ab", "abc"))
	case 3:
		l := []string{"", "a", "ab", "abc", "b"}
		return in("s", l[r.Intn(3):3+r.Intn(3)]...)
	case 4:
		return prefix("s", pick(r, "", "a", "ab", "x"))
	case 5:
		return null(pick(r, "x", "y", "z", "s"))
	}
	return between(r.Int63n(12)-2, r.Int63n(12)-2)
}

// spoilt answers p with one thing that is most often wrong.
func spoilt(r *rand.Rand, p api.Pred) api.Pred {
	switch r.Intn(7) {
	case 0:
		p.Kind = r.Intn(13) - 1
	case 1:
		p.Col = pick(r, "", "A", "abcdefghijklm", "x\x00")
	case 2:
		p.N++
	case 3:
		p.M--
	case 4:
		p.S = pick(r, "", "a", strings.Repeat("x", 41))
	case 5:
		p.Set = append(slices.Clone(p.Set), pick(r, "", "a", strings.Repeat("x", 41)))
	case 6:
		p.Kids = append(slices.Clone(p.Kids), pick(r, every(), null("q")))
	}
	return p
}

// anyOne answers a predicate that is seldom wrong.
func anyOne(r *rand.Rand, deep int) api.Pred {
	p := leaf(r)
	if deep > 1 && r.Intn(3) > 0 {
		p = api.Pred{Kind: 1 + r.Intn(3)}
		kids := r.Intn(4)
		if p.Kind == api.Not {
			kids = 1
		}
		for range kids {
			p.Kids = append(p.Kids, anyOne(r, deep-1))
		}
	}
	if r.Intn(60) == 0 {
		return spoilt(r, p)
	}
	return p
}

// event answers a row that is Right.
func event(r *rand.Rand) api.Row {
	out := api.Row{Time: r.Int63n(10), Seq: 1}
	if r.Intn(3) > 0 {
		out.Cells = append(out.Cells, text("s", pick(r, "", "a", "ab", "abc", "b", "c")))
	}
	for _, col := range []string{"x", "y"} {
		if r.Intn(3) > 0 {
			out.Cells = append(out.Cells, number(col, r.Int63n(8)-3))
		}
	}
	return out
}

func TestPredicatesOfEveryKind(t *testing.T) {
	r := rand.New(rand.NewSource(2))
	told := map[bool]int{}
	for range 3000 {
		p := anyOne(r, 7)
		want := otherRight(p)
		judged(t, "any", p, want)
		holdBytes(t, written(p), 0)
		for range 5 {
			e := event(r)
			asked(t, "any", p, e)
			if got := pred.Normal(p); pred.Eval(got, e) != pred.Eval(p, e) {
				t.Errorf("P13.5: Normal(%v): %v, unlike for %v", p, got, e)
			}
		}
		told[want]++
	}
	if told[true] < 500 || told[false] < 500 {
		t.Errorf("so many are Right, and not: %v", told)
	}
}

func FuzzDecode(f *testing.F) {
	f.Add([]byte("\x01\x05\x04\x01x\x01\x03\x07\x01s\x02\x01a\x02bc\x0a\x06\x05\x08\x01s\x01q\x09\x01z"), 0)
	f.Add([]byte("zz\x02\x00"), 2)
	f.Add([]byte("\x03\x03\x03\x03\x03\x03"), 0)
	f.Add([]byte("\x07\x01s\x09"), 0)
	f.Fuzz(func(t *testing.T, b []byte, at int) {
		holdBytes(t, string(b), at)
	})
}

// The bounds of R5: what is no deeper than 50 and of no more than 5000 parts is gone through to its end.
func TestGreatPredicates(t *testing.T) {
	for _, n := range []int{6, 7, 30, 48, 49} {
		p := under(api.Not, n, equal("x", 3))
		judged(t, "deep Nots", p, false)
		evaluated(t, "deep Nots", p, with(number("x", 3)), n%2 == 0)
		for _, kind := range []int{api.All, api.Any, 99} {
			p := under(kind, n, equal("x", 3))
			measured(t, "deep", p, n+1, []string{"x"})
			simplified(t, "deep", p, p)
			evaluated(t, "deep", p, with(number("x", 3)), kind != 99)
			evaluated(t, "deep", p, with(number("x", 4)), false)
		}
	}
	for _, n := range []int{40, 500, 4997, 4998} {
		x := times(n, null("x"))
		p := every(append(slices.Clone(x), null("y"))...)
		measured(t, "wide", p, n+2, []string{"x", "y"})
		simplified(t, "wide", p, p)
		evaluated(t, "wide", p, api.Row{}, true)
		evaluated(t, "wide", p, with(number("y", 1)), false)
		p = some(append(slices.Clone(x), null("y"))...)
		evaluated(t, "wide", p, with(number("x", 1)), true)
		evaluated(t, "wide", p, with(number("x", 1), number("y", 1)), false)
	}
	p := under(api.All, 48, some(times(4951, null("x"))...))
	measured(t, "deep and wide", p, 5000, []string{"x"})
	evaluated(t, "deep and wide", p, api.Row{}, true)
	simplified(t, "deep and wide", p, p)
	p = every(times(9, some(append(times(550, null("x")), under(api.Not, 1, null("y")))...))...)
	measured(t, "lists of lists", every(p, null("z")), 9*(1+550+2)+3, []string{"x", "y", "z"})
	evaluated(t, "lists of lists", p, with(number("x", 1), number("y", 1)), true)
	evaluated(t, "lists of lists", p, with(number("x", 1)), false)
}

// endless answers predicates whose lists of Kids hold themselves.
func endless() []api.Pred {
	var out []api.Pred
	for kind := range 12 {
		for _, size := range []int{1, 2, 3, 1000} {
			kids := make([]api.Pred, size)
			for i := range kids {
				kids[i] = api.Pred{Kind: kind, Kids: kids}
			}
			out = append(out, kids[0], not(kids[0]), every(null("x"), kids[0]))
		}
	}
	return out
}

// Beyond the bounds of R5 nothing is promised but that calls end.
func TestCallsEndBeyondTheBounds(t *testing.T) {
	l := append(endless(), under(api.Not, 50, null("x")), under(api.All, 51, null("x")), under(api.Any, 100000, null("x")), every(times(5000, null("x"))...), some(times(200000, null("x"))...), every(times(80, some(times(80, null("x"))...))...))
	// Few lists, of very many parts.
	wide := null("x")
	for n := range 60 {
		wide = every(wide, wide)
		if n > 12 {
			l = append(l, wide)
		}
	}
	for i, p := range l {
		if pred.Right(p) {
			t.Errorf("P13.1: Right of what is beyond all bounds, %d", i)
		}
		if b, why := pred.Encode(p); len(b) != 0 || why != api.ErrForm {
			t.Errorf("P13.4: Encode of what is beyond all bounds, %d: %d", i, why)
		}
		pred.Eval(p, with(number("x", 3)))
		pred.Normal(p)
		pred.Size(p)
		pred.Cols(p)
	}
}

func TestRowsThatAreNotRight(t *testing.T) {
	long := with(slices.Repeat([]api.Cell{number("a", 1), {Col: "b", Kind: 9}}, 3000)...)
	long.Cells = append(long.Cells, text("s", strings.Repeat("x", 1000)))
	for _, p := range many() {
		asked(t, "a long row", p, long)
		asked(t, "a row of no time", p, api.Row{Time: first, Seq: -1, Cells: []api.Cell{{}, {}, number("x", 5), number("x", -6)}})
	}
	evaluated(t, "a long row", prefix("s", strings.Repeat("x", 900)), long, true)
	evaluated(t, "a long row", null("c"), long, true)
}

// scribble overwrites all of l's memory, its spare room too.
func scribble[T any](l []T, with T) {
	for i := range l[:cap(l)] {
		l[:cap(l)][i] = with
	}
}

// lists answers p's lists at each depth.
func lists(p api.Pred) ([][]string, [][]api.Pred) {
	sets, kids := [][]string{p.Set}, [][]api.Pred{p.Kids}
	for _, k := range p.Kids {
		a, b := lists(k)
		sets, kids = append(sets, a...), append(kids, b...)
	}
	return sets, kids
}

// scribbleAll overwrites all lists of p.
func scribbleAll(p api.Pred) {
	sets, kids := lists(p)
	for _, l := range sets {
		scribble(l, "scribble")
	}
	for _, l := range kids {
		scribble(l, api.Pred{Kind: 98, Col: "scribble"})
	}
}

func whole[T any](l []T) []T {
	return slices.Clone(l[:cap(l)])
}

// apart fails if two lists of one of make's answers share memory: each is overwritten by itself, its room too.
func apart(t *testing.T, name string, make func() api.Pred) {
	t.Helper()
	sets, kids := lists(make())
	for i := range len(sets) + len(kids) {
		sets, kids := lists(make())
		var texts [][]string
		var parts [][]api.Pred
		for _, l := range sets {
			texts = append(texts, whole(l))
		}
		for _, l := range kids {
			parts = append(parts, whole(l))
		}
		if i < len(sets) {
			scribble(sets[i], "scribble")
		} else {
			scribble(kids[i-len(sets)], api.Pred{Kind: 98, Col: "scribble"})
		}
		for k, l := range sets {
			if k != i && !slices.Equal(whole(l), texts[k]) {
				t.Errorf("R2: %s: two lists of texts share memory", name)
			}
		}
		for k, l := range kids {
			if k+len(sets) != i && !slices.EqualFunc(whole(l), parts[k], sameHead) {
				t.Errorf("R2: %s: two lists of Kids share memory", name)
			}
		}
	}
}

// separate fails if what make answers for what it is handed shares memory with that, or with another answer.
func separate(t *testing.T, name string, p, want api.Pred, make func(p api.Pred) api.Pred) {
	t.Helper()
	given := filled(p)
	one, two := make(given), make(given)
	if !same(one, want) || !same(two, want) {
		t.Errorf("%s: %v and %v, want %v", name, one, two, want)
	}
	scribbleAll(one)
	if !same(two, want) {
		t.Errorf("R2: %s: an answer changes with another one: %v, want %v", name, two, want)
	}
	untouched(t, given, p)
	scribbleAll(given)
	if !same(two, want) {
		t.Errorf("R2: %s: an answer changes with what was handed in: %v, want %v", name, two, want)
	}
	apart(t, name, func() api.Pred { return make(filled(p)) })
}

// twins answers predicates whose lists are one and the same memory, at several places.
func twins() []api.Pred {
	set, kids := []string{"a", "b"}, []api.Pred{null("x"), in("s", "c")}
	a := api.Pred{Kind: api.In, Col: "s", Set: set}
	b := api.Pred{Kind: api.All, Kids: kids}
	return []api.Pred{
		every(a, a), some(b, b, some(b, a)), not(every(a, not(a), b)), every(b, b), not(some(b, a, b)), not(b), every(a, null("X"), a), some(some(b), not(b, b)),
		{Kind: 99, Set: set, Kids: []api.Pred{a, b, {Kind: 98, Set: set[:1], Kids: kids[:1]}}},
	}
}

func TestNormalsAnswerIsNewMemory(t *testing.T) {
	l := append(many(), twins()...)
	l = append(l, not(), not(in("s", "a"), in("s", "b")), every(null("X"), in("s", "a")), in("s", "b", "a"), api.Pred{Kind: api.Less, Set: []string{"a"}, Kids: []api.Pred{in("s", "a"), every(in("s", "b"))}}, under(api.All, 20, in("s", "a")))
	for _, p := range l {
		want := otherNormal(p)
		separate(t, "Normal", p, want, pred.Normal)
	}
	for _, p := range twins() {
		want := filled(otherNormal(p))
		scribbleAll(pred.Normal(p))
		if !same(otherNormal(p), want) {
			t.Errorf("R2: Normal's answer is memory of what was handed in: %v", p)
		}
	}
}

func TestColsAnswerIsNewMemory(t *testing.T) {
	for _, p := range append(many(), every(null("c"), null("a"), null("b"), null("a"))) {
		given := filled(p)
		one, two := pred.Cols(given), pred.Cols(given)
		scribble(one, "scribble")
		if !slices.Equal(two, otherCols(p)) {
			t.Errorf("R2: Cols' answer changes with another one: %q", two)
		}
		untouched(t, given, p)
	}
}

func TestBytesAreNewMemory(t *testing.T) {
	for _, p := range append(many(), twins()[:6]...) {
		one, _ := pred.Encode(p)
		two, _ := pred.Encode(p)
		scribble(one, 0x11)
		if string(two) != written(p) {
			t.Errorf("R2: Encode's answer changes with another answer: %x", two)
		}
		b := filledBytes("zz" + written(p))
		separate(t, "Decode", p, p, func(api.Pred) api.Pred {
			q, _, _ := pred.Decode(b, 2)
			return q
		})
		q, _, _ := pred.Decode(b, 2)
		scribble(b, 0x22)
		if !same(q, p) {
			t.Errorf("R2: Decode's answer changes with what was handed in: %v, want %v", q, p)
		}
	}
}

func ExampleNormal() {
	p := api.Pred{Kind: api.Not, Kids: []api.Pred{{Kind: api.All, Kids: []api.Pred{{Kind: api.Less, Col: "x", N: 5}, {Kind: api.Null, Col: "y"}}}}}
	r := api.Row{Time: -1, Seq: 300, Cells: []api.Cell{{Col: "x", Kind: api.Int, N: -2}, {Col: "y", Kind: api.Text, S: "ab"}}}
	fmt.Println(pred.Right(p), pred.Eval(p, r), pred.Size(p), pred.Cols(p))
	b, _ := pred.Encode(p)
	fmt.Printf("%x\n", b)
	_, end, _ := pred.Decode(b, 0)
	fmt.Println(end)
	b, _ = pred.Encode(pred.Normal(p))
	fmt.Printf("%x\n", b)
	// Output:
	// true true 4 [x y]
	// 0301020401780a090179
	// 10
	// 0202030401780a03090179
}
