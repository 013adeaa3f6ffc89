package group_test

import (
	"fmt"
	"math"
	"math/rand"
	"slices"
	"strings"
	"testing"

	"columbarium/api"
	"columbarium/dels"
	"columbarium/group"
	"columbarium/pred"
	"columbarium/prune"
	"columbarium/ticks"
)

// oddFlags answers each set of flags, and numbers that have others too.
func oddFlags() []int {
	var out []int
	for flags := range 16 {
		out = append(out, flags)
	}
	return append(out, 16, 16+api.UseZones, -1, math.MinInt, math.MaxInt, 1<<40)
}

func less(col string, n int64) api.Pred { return api.Pred{Kind: api.Less, Col: col, N: n} }

func equal(col string, n int64) api.Pred { return api.Pred{Kind: api.Equal, Col: col, N: n} }

func is(col, s string) api.Pred { return api.Pred{Kind: api.Is, Col: col, S: s} }

func in(col string, l ...string) api.Pred { return api.Pred{Kind: api.In, Col: col, Set: l} }

func prefix(col, s string) api.Pred { return api.Pred{Kind: api.Prefix, Col: col, S: s} }

func null(col string) api.Pred { return api.Pred{Kind: api.Null, Col: col} }

func between(n, m int64) api.Pred { return api.Pred{Kind: api.Between, N: n, M: m} }

func all(kids ...api.Pred) api.Pred { return api.Pred{Kind: api.All, Kids: kids} }

func either(kids ...api.Pred) api.Pred { return api.Pred{Kind: api.Any, Kids: kids} }

func not(kid api.Pred) api.Pred { return api.Pred{Kind: api.Not, Kids: []api.Pred{kid}} }

// marked answers marks of so many rows, of which those at places are marked.
func marked(rows int, places ...int) *dels.Marks {
	m, _ := dels.New(rows)
	for _, place := range places {
		m.Set(place)
	}
	return m
}

// otherEval is another reckoning of pred.Eval, of predicates that are Right.
func otherEval(p api.Pred, r api.Row) bool {
	var c api.Cell
	for _, cell := range r.Cells {
		if cell.Col == p.Col {
			c = cell
		}
	}
	switch p.Kind {
	case 1, 2:
		held := 0
		for _, k := range p.Kids {
			if otherEval(k, r) {
				held++
			}
		}
		return p.Kind == 1 && held == len(p.Kids) || p.Kind == 2 && held > 0
	case 3:
		return !otherEval(p.Kids[0], r)
	case 4:
		return c.Kind == 1 && c.N < p.N
	case 5:
		return c.Kind == 1 && c.N == p.N
	case 6:
		return c.Kind == 2 && c.S == p.S
	case 7:
		return c.Kind == 2 && slices.Index(p.Set, c.S) >= 0
	case 8:
		return c.Kind == 2 && len(c.S) >= len(p.S) && c.S[:len(p.S)] == p.S
	case 9:
		return c.Kind == 0
	}
	return r.Time >= p.N && r.Time <= p.M
}

// otherScan is another reckoning of Scan.
func otherScan(l []api.Row, p api.Pred, gone *dels.Marks, from, flags int) ([]api.Row, bool) {
	if !pred.Right(p) {
		return nil, false
	}
	var out []api.Row
	for i, r := range l {
		// Reckoned without wrapping round: a place past all ints is none.
		past := from > 0 && from > math.MaxInt-i
		if otherEval(p, r) && !(gone != nil && !past && gone.Has(from+i)) {
			out = append(out, r)
		}
	}
	return out, prune.Judge(p, otherStats(l), flags) == prune.Never
}

// filledPred answers p with texts and parts behind its own, at each depth, that would turn an answer if they were read.
func filledPred(p api.Pred) api.Pred {
	set, kids := slices.Clone(p.Set), []api.Pred(nil)
	for _, k := range p.Kids {
		kids = append(kids, filledPred(k))
	}
	for i := range room {
		set = append(set, []string{"", "a", "b", "ab"}[i%4])
		kids = append(kids, api.Pred{Kind: 1 + i})
	}
	p.Set, p.Kids = set[:len(p.Set)], kids[:len(p.Kids)]
	return p
}

// sameFilled tells whether two predicates of filledPred are the same, with the room behind their lists.
func sameFilled(a, b api.Pred) bool {
	if a.Kind != b.Kind || a.Col != b.Col || a.N != b.N || a.M != b.M || a.S != b.S || len(a.Set) != len(b.Set) || len(a.Kids) != len(b.Kids) {
		return false
	}
	sets, kids := len(a.Set)+room, len(a.Kids)+room
	if !slices.Equal(a.Set[:sets], b.Set[:sets]) || !slices.EqualFunc(a.Kids, b.Kids, sameFilled) {
		return false
	}
	for i := len(a.Kids); i < kids; i++ {
		if a.Kids[:kids][i].Kind != b.Kids[:kids][i].Kind {
			return false
		}
	}
	return true
}

// asked fails unless g, which has l's rows, answers so.
func asked(t *testing.T, g *group.Group, l []api.Row, p api.Pred, gone *dels.Marks, from, flags int) {
	t.Helper()
	want, wantNever := otherScan(l, p, gone, from, flags)
	var marks []byte
	if gone != nil {
		marks = gone.Encode()
	}
	given := filledPred(p)
	got, never := g.Scan(given, gone, from, flags)
	if !same(got, want) || never != wantNever {
		t.Fatalf("P16.2: Scan(%v, %x, %d, %d) of %.300v: %.300v, %v, want %.300v, %v", p, marks, from, flags, l, got, never, want, wantNever)
	}
	if !sameFilled(given, filledPred(p)) {
		t.Errorf("R2: a predicate that was handed in was changed: %v", given)
	}
	if gone != nil && string(gone.Encode()) != string(marks) {
		t.Errorf("R2: marks that were handed in were changed: %x, were %x", gone.Encode(), marks)
	}
	for _, r := range l {
		if pred.Right(p) && pred.Eval(p, r) != otherEval(p, r) {
			t.Fatalf("%v of %v: pred.Eval and the other reckoning say unlike things", p, r)
		}
	}
}

// askedAll asks with each of flags, without marks.
func askedAll(t *testing.T, g *group.Group, l []api.Row, p api.Pred) {
	t.Helper()
	for _, flags := range oddFlags() {
		asked(t, g, l, p, nil, 0, flags)
	}
}

// five are the rows that the tables below tell of.
func five() []api.Row {
	return []api.Row{at(3, 9, str("s", "b"), num("x", 4)), at(5, 0), at(5, 2, str("s", "ab"), num("y", 0)), at(7, 1, str("s", ""), num("x", -1)), at(7, 4, str("s", "abc"), num("x", 4))}
}

const (
	zones  = api.UseZones
	blooms = api.UseBlooms
	tick   = api.UseTicks
	dict   = api.UseDicts
)

// Of each row a + where it is told; by is the flag with which it is told without reading rows, 0 with none, -1 with any.
func TestScansByHand(t *testing.T) {
	for _, c := range []struct {
		p    api.Pred
		want string
		by   int
	}{
		{less("x", 4), "...+.", 0}, {less("x", 5), "+..++", 0}, {less("x", -1), ".....", zones}, {less("x", 0), "...+.", 0}, {less("x", math.MinInt64), ".....", zones}, {less("x", math.MaxInt64), "+..++", 0},
		{less("y", 0), ".....", zones}, {less("y", 1), "..+..", 0}, {less("s", 9), ".....", zones}, {less("z", 9), ".....", zones},
		{equal("x", 4), "+...+", 0}, {equal("x", -1), "...+.", 0}, {equal("x", 0), ".....", 0}, {equal("x", 5), ".....", zones}, {equal("x", -2), ".....", zones}, {equal("y", 0), "..+..", 0}, {equal("s", 0), ".....", zones}, {equal("z", 0), ".....", zones},
		{is("s", "b"), "+....", 0}, {is("s", ""), "...+.", 0}, {is("s", "ab"), "..+..", 0}, {is("s", "abcd"), ".....", blooms}, {is("s", "c"), ".....", zones | blooms}, {is("x", "4"), ".....", zones}, {is("x", ""), ".....", zones}, {is("z", ""), ".....", zones},
		{in("s"), ".....", -1}, {in("s", "", "abc"), "...++", 0}, {in("s", "b", "c"), "+....", 0}, {in("s", "abcd", "c"), ".....", blooms}, {in("s", "c", "d"), ".....", zones | blooms}, {in("x", "", "4"), ".....", zones}, {in("z", ""), ".....", zones}, {in("z"), ".....", -1},
		{prefix("s", ""), "+.+++", 0}, {prefix("s", "a"), "..+.+", 0}, {prefix("s", "ab"), "..+.+", 0}, {prefix("s", "abc"), "....+", 0}, {prefix("s", "abcd"), ".....", 0}, {prefix("s", "b"), "+....", 0}, {prefix("s", "ba"), ".....", zones}, {prefix("s", "c"), ".....", zones}, {prefix("x", ""), ".....", zones}, {prefix("z", ""), ".....", zones},
		{null("s"), ".+...", 0}, {null("x"), ".++..", 0}, {null("y"), "++.++", 0}, {null("z"), "+++++", 0},
		{between(3, 7), "+++++", 0}, {between(4, 6), ".++..", 0}, {between(5, 5), ".++..", 0}, {between(6, 6), ".....", 0}, {between(3, 3), "+....", 0}, {between(0, 2), ".....", tick}, {between(8, 9), ".....", tick}, {between(5, 4), ".....", tick}, {between(7, 3), ".....", tick}, {between(math.MinInt64, math.MaxInt64), "+++++", 0}, {between(math.MaxInt64, math.MinInt64), ".....", tick},
		{all(), "+++++", 0}, {either(), ".....", -1}, {not(all()), ".....", -1}, {not(either()), "+++++", 0},
		{all(null("z")), "+++++", 0}, {all(less("x", 5), is("s", "b")), "+....", 0}, {all(less("x", 5), either()), ".....", -1}, {all(between(5, 7), null("x")), ".++..", 0}, {all(equal("x", 0), is("s", "b")), ".....", 0}, {all(is("s", "b"), less("x", -1)), ".....", zones}, {all(is("s", "b"), null("s"), less("x", 5)), ".....", 0},
		{either(equal("y", 0), is("s", "b")), "+.+..", 0}, {either(in("s"), either()), ".....", -1}, {either(null("s"), not(null("s")), less("x", 0)), "+++++", 0}, {either(between(8, 9), less("x", -1)), ".....", zones | tick<<8}, {either(in("s", "b"), prefix("s", "abc"), equal("y", 0)), "+.+.+", 0},
		{not(null("s")), "+.+++", 0}, {not(less("x", 4)), "+++.+", 0}, {not(is("s", "b")), ".++++", 0}, {not(between(4, 6)), "+..++", 0}, {not(not(equal("x", 4))), "+...+", 0}, {not(null("z")), ".....", zones}, {not(between(0, 9)), ".....", tick}, {not(in("s")), "+++++", 0}, {not(less("z", 5)), "+++++", 0},
		{not(all(less("x", 5), is("s", "b"))), ".++++", 0}, {not(either(null("x"), equal("x", -1))), "+...+", 0}, {not(all(not(null("s")), not(either(is("s", ""), null("y"))))), "++.++", 0},
	} {
		var want []api.Row
		for i, r := range five() {
			if c.want[i] == '+' {
				want = append(want, r)
			}
		}
		g := open(t, five())
		for _, flags := range oddFlags() {
			never := c.by < 0 || flags&c.by&15 != 0
			if both := c.by >> 8; c.by > 15 {
				never = flags&c.by&15 != 0 && flags&both != 0
			}
			if got, told := g.Scan(c.p, nil, 0, flags); !same(got, want) || told != never {
				t.Errorf("P16.2: Scan(%v) with flags %d: %v, %v, want %s, %v", c.p, flags, got, told, c.want, never)
			}
		}
		askedAll(t, g, five(), c.p)
		askedAll(t, open(t, five()), five(), c.p)
	}
}

// near answers predicates of each Kind that asks a cell, at each bound of c.
func near(c api.Cell) []api.Pred {
	out := []api.Pred{null(c.Col), in(c.Col)}
	for _, n := range []int64{c.N, c.N - 1, c.N + 1, math.MinInt64, math.MaxInt64, 0} {
		out = append(out, less(c.Col, n), equal(c.Col, n))
	}
	texts := []string{c.S, c.S[:len(c.S)/2], ""}
	if len(c.S) < 40 {
		texts = append(texts, c.S+"\x00")
	}
	for _, s := range texts {
		out = append(out, is(c.Col, s), prefix(c.Col, s), in(c.Col, s))
		if len(s) < 40 {
			out = append(out, in(c.Col, s, s+"z"))
		}
	}
	return out
}

func TestScansAtEachBound(t *testing.T) {
	for _, l := range some() {
		g := open(t, l)
		asks := []api.Pred{all(), either()}
		for _, r := range l {
			for _, lo := range []int64{r.Time - 1, r.Time, r.Time + 1, math.MinInt64} {
				for _, hi := range []int64{r.Time - 1, r.Time, r.Time + 1, math.MaxInt64} {
					asks = append(asks, between(lo, hi))
				}
			}
			for _, c := range r.Cells {
				asks = append(asks, near(c)...)
				c.Col = "gone"
				asks = append(asks, near(c)...)
			}
		}
		asks = slices.CompactFunc(asks, func(a, b api.Pred) bool { return fmt.Sprint(a) == fmt.Sprint(b) })
		for i, p := range asks {
			for flags := range 16 {
				asked(t, g, l, p, nil, 0, flags)
				asked(t, g, l, not(p), nil, 0, flags)
			}
			other := asks[i*7%len(asks)]
			for _, both := range []api.Pred{all(p, other), either(p, other), not(all(other, p)), not(either(not(p), other)), all(either(p, other), not(other)), either(all(), p), all(either(), p)} {
				asked(t, g, l, both, nil, 0, i%16)
				asked(t, g, l, both, nil, 0, 15)
			}
		}
	}
}

// notRight answers predicates that are not Right, one for each way.
func notRight() []api.Pred {
	long := strings.Repeat("a", 41)
	deep, wide := null("x"), all()
	for range 6 {
		deep = not(deep)
	}
	for range 40 {
		wide.Kids = append(wide.Kids, null("x"))
	}
	out := []api.Pred{
		{}, {Kind: -1}, {Kind: 11, Col: "x"}, {Kind: 1<<32 + api.All}, {Kind: math.MinInt}, {Kind: math.MaxInt}, deep, wide,
		{Kind: api.Not}, {Kind: api.Not, Kids: []api.Pred{null("x"), null("x")}}, {Kind: api.All, Col: "x"}, {Kind: api.Any, N: 1}, {Kind: api.All, M: 1}, {Kind: api.All, S: "a"}, {Kind: api.All, Set: []string{"a"}},
		less("", 9), less("X", 9), less("no name", 9), equal(strings.Repeat("x", 13), 4), {Kind: api.Less, Col: "x", N: 9, M: 1}, {Kind: api.Equal, Col: "x", N: 4, S: "a"}, {Kind: api.Less, Col: "x", N: 9, Kids: []api.Pred{all()}},
		is("s", long), is("S", "b"), prefix("s", long), prefix("\xff", ""), {Kind: api.Is, Col: "s", S: "b", N: 1}, {Kind: api.Prefix, Col: "s", Set: []string{"a"}},
		in("s", "b", "a"), in("s", "b", "b"), in("s", long), in("", "b"), in("s", "0", "1", "2", "3", "4", "5", "6", "7", "b"), {Kind: api.In, Col: "s", S: "b", Set: []string{"b"}},
		null(""), null("Z"), {Kind: api.Null, Col: "z", N: 1}, {Kind: api.Null, Col: "z", Kids: []api.Pred{null("z")}}, {Kind: api.Between, N: 3, M: 7, Col: "x"}, {Kind: api.Between, N: 3, M: 7, S: "a"}, {Kind: api.Between, N: 3, M: 7, Set: []string{""}},
	}
	for _, p := range slices.Clone(out) {
		out = append(out, all(p), either(all(), p), either(p, all()), all(either(), p), not(p))
	}
	return out
}

func TestPredicatesThatAreNotRight(t *testing.T) {
	bounds := []api.Pred{null("z")}
	for range 5 {
		bounds[0] = not(bounds[0])
	}
	wide := all()
	for range 39 {
		wide.Kids = append(wide.Kids, null("z"))
	}
	bounds = append(bounds, wide, is("s", strings.Repeat("a", 40)), in("s", "0", "1", "2", "3", "4", "5", "6", "b"), null(strings.Repeat("z", 12)))
	for _, l := range append(some(), five()) {
		g := open(t, l)
		for _, p := range notRight() {
			for _, flags := range oddFlags() {
				if got, never := g.Scan(p, nil, 0, flags); len(got) != 0 || never {
					t.Errorf("P16.2: Scan(%v), which is not Right: %v, %v, want none, false", p, got, never)
				}
			}
			askedAll(t, g, l, p)
		}
		for _, p := range bounds {
			if !pred.Right(p) {
				t.Fatalf("%v is not Right", p)
			}
			askedAll(t, g, l, p)
		}
		tells(t, "behind what is not Right", g, l)
	}
}

func TestMarksByHand(t *testing.T) {
	for i, c := range []struct {
		p    api.Pred
		gone *dels.Marks
		from int
		want string
	}{
		{all(), nil, 0, "+++++"}, {all(), nil, 7, "+++++"}, {all(), nil, -7, "+++++"},
		{all(), marked(5), 0, "+++++"}, {all(), marked(0), 0, "+++++"}, {all(), marked(5, 0), 0, ".++++"}, {all(), marked(5, 4), 0, "++++."}, {all(), marked(5, 1, 3), 0, "+.+.+"}, {all(), marked(5, 0, 1, 2, 3, 4), 0, "....."},
		{all(), marked(3, 0, 1, 2), 0, "...++"}, {all(), marked(1, 0), 0, ".++++"}, {all(), marked(9, 0, 1, 2), 3, "+++++"}, {all(), marked(9, 3), 3, ".++++"}, {all(), marked(9, 7), 3, "++++."}, {all(), marked(9, 8), 3, "+++++"}, {all(), marked(9, 2), 3, "+++++"},
		{all(), marked(9, 5, 8), 5, ".++.+"}, {all(), marked(9, 5, 8), 8, ".++++"}, {all(), marked(9, 5, 8), 9, "+++++"}, {all(), marked(9, 5, 8), 10, "+++++"}, {all(), marked(9, 5, 8), math.MaxInt, "+++++"}, {all(), marked(9, 0, 1, 2, 3), math.MaxInt - 1, "+++++"}, {all(), marked(9, 5, 8), math.MinInt, "+++++"},
		{all(), marked(9, 0, 1), -1, "+..++"}, {all(), marked(9, 0, 1), -4, "++++."}, {all(), marked(9, 0, 1), -5, "+++++"},
		{all(), marked(1<<20, 1<<20-1), 1<<20 - 1, ".++++"}, {all(), marked(1<<20, 1<<20-1), 1<<20 - 5, "++++."}, {all(), marked(1<<20, 0, 1<<20-1), 1 << 20, "+++++"},
		{less("x", 5), marked(5, 0), 0, "...++"}, {less("x", 5), marked(5, 0, 3, 4), 0, "....."}, {less("x", 5), marked(5, 1, 2), 0, "+..++"}, {null("x"), marked(8, 4), 3, "..+.."}, {not(null("s")), marked(8, 3, 4), 3, "..+++"}, {between(5, 7), marked(8, 5), 3, ".+.++"},
	} {
		var want []api.Row
		for i, r := range five() {
			if c.want[i] == '+' {
				want = append(want, r)
			}
		}
		g := open(t, five())
		for _, flags := range oddFlags() {
			if got, never := g.Scan(c.p, c.gone, c.from, flags); !same(got, want) || never {
				t.Errorf("P16.2: case %d with flags %d: %v, %v, want %s, false", i, flags, got, never, c.want)
			}
			asked(t, g, five(), c.p, c.gone, c.from, flags)
		}
	}
}

func TestMarksOfEachRow(t *testing.T) {
	for _, l := range some() {
		g := open(t, l)
		n := len(l)
		every := make([]int, n)
		for i := range every {
			every[i] = i
		}
		lists := []*dels.Marks{nil, marked(0), marked(n), marked(n, every...), marked(n+5, every...), marked(max(n-1, 0), every...)}
		for i := range n {
			lists = append(lists, marked(n, i), marked(n, slices.Delete(slices.Clone(every), i, i+1)...))
		}
		for _, gone := range lists {
			for _, from := range []int{0, 1, n - 1, n, n + 1, -1, 1 - n, -n, math.MaxInt, math.MaxInt - n, math.MaxInt - n + 1, math.MinInt} {
				for _, p := range []api.Pred{all(), null("s"), not(null("s")), less("n", 0), between(0, 20), either(), {}} {
					for _, flags := range []int{0, 15, zones, dict} {
						asked(t, g, l, p, gone, from, flags)
					}
				}
			}
		}
	}
}

// anyPred answers a Right predicate, or one that is hardly so.
func anyPred(r *rand.Rand, deep int) api.Pred {
	if deep > 1 && r.Intn(2) == 0 {
		kids := make([]api.Pred, r.Intn(4))
		for i := range kids {
			kids[i] = anyPred(r, deep-1)
		}
		switch r.Intn(3) {
		case 0:
			return all(kids...)
		case 1:
			return either(kids...)
		}
		return not(anyPred(r, deep-1))
	}
	col := string(rune('a' + r.Intn(13)))
	n := r.Int63n(8) - 3
	switch r.Intn(9) {
	case 0, 1:
		return less(col, n)
	case 2:
		return equal(col, n)
	case 3:
		return is(col, anyText(r))
	case 4:
		set := []string{anyText(r), anyText(r), anyText(r)}[:r.Intn(4)]
		if r.Intn(3) > 0 {
			slices.Sort(set)
			set = slices.Compact(set)
		}
		return in(col, set...)
	case 5:
		return prefix(col, []string{"", "a", "ab", "b", "z"}[r.Intn(5)])
	case 6, 7:
		return null(col)
	}
	lo := r.Int63n(1100) - 550
	return between(lo, lo+r.Int63n(60)-3)
}

func TestScansOfEverySort(t *testing.T) {
	r := rand.New(rand.NewSource(162))
	none, whole, part, nevers, wrong := 0, 0, 0, 0, 0
	for range 3000 {
		l := anyRows(r)
		g := open(t, l)
		for range 10 {
			p := anyPred(r, 1+r.Intn(6))
			var gone *dels.Marks
			if r.Intn(3) > 0 {
				gone = marked(r.Intn(40))
				for range r.Intn(20) {
					gone.Set(r.Intn(40))
				}
			}
			from, flags := r.Intn(30)-5, r.Intn(16)
			asked(t, g, l, p, gone, from, flags)
			got, never := g.Scan(p, gone, from, flags)
			switch {
			case !pred.Right(p):
				wrong++
			case never:
				nevers++
			case len(got) == 0:
				none++
			case len(got) == len(l):
				whole++
			default:
				part++
			}
		}
		if r.Intn(20) == 0 {
			tells(t, "behind scans", g, l)
		}
	}
	if min(none, whole, part, nevers) < 2000 || wrong < 200 {
		t.Errorf("only %d %d %d %d %d", none, whole, part, nevers, wrong)
	}
}

// endless answers predicates whose lists of Kids hold themselves, and some of more parts than a predicate may have.
func endless() []api.Pred {
	var out []api.Pred
	for kind := -1; kind < 12; kind++ {
		kids := make([]api.Pred, 2)
		for i := range kids {
			kids[i] = api.Pred{Kind: kind, Kids: kids}
		}
		tower := api.Pred{Kind: kind}
		for range 1000 {
			tower = api.Pred{Kind: kind, Kids: []api.Pred{tower}}
		}
		out = append(out, kids[0], tower, api.Pred{Kind: kind, Kids: slices.Repeat([]api.Pred{{Kind: kind}}, 50000)}, api.Pred{Kind: kind, Set: make([]string, 50000)})
	}
	return out
}

func TestCallsEnd(t *testing.T) {
	for _, l := range some() {
		g := open(t, l)
		for i, p := range endless() {
			for _, flags := range oddFlags() {
				if got, never := g.Scan(p, marked(3, 1), -1, flags); len(got) != 0 || never {
					t.Errorf("R1: endless %d: %v, %v, want none, false", i, got, never)
				}
			}
		}
		tells(t, "behind endless predicates", g, l)
	}
	cells := make([]api.Cell, 1<<20)
	for i, l := range [][]api.Row{{{Cells: cells}}, {{}, {Cells: cells}}, {{Cells: cells[:0]}}} {
		if _, why := group.Write(l); (why == api.OK) != (i == 2) {
			t.Errorf("R1: rows of many cells, %d: %d", i, why)
		}
	}
}

// calls answers what each call of a group tells, in words.
func calls() []func(g *group.Group) string {
	scan := func(p api.Pred, gone *dels.Marks, from, flags int) func(g *group.Group) string {
		return func(g *group.Group) string {
			l, never := g.Scan(p, gone, from, flags)
			return fmt.Sprintf("%q %v", fmt.Sprint(l), never)
		}
	}
	return []func(g *group.Group) string{
		func(g *group.Group) string { return fmt.Sprint(g.Count()) },
		func(g *group.Group) string { return fmt.Sprintf("%q", fmt.Sprint(g.Stats())) },
		func(g *group.Group) string { return fmt.Sprint(g.Times()) },
		func(g *group.Group) string { return fmt.Sprintf("%q", fmt.Sprint(g.Rows())) },
		scan(either(prefix("s", "a"), null("n"), less("x", 3)), marked(9, 1, 2), 1, dict),
		scan(all(between(0, 60), not(less("n", 0))), nil, 0, 0),
		scan(less("x", -99), nil, 0, 15),
	}
}

// orders answers each order of n things.
func orders(n int) [][]int {
	if n == 0 {
		return [][]int{nil}
	}
	var out [][]int
	for _, o := range orders(n - 1) {
		for at := range n {
			out = append(out, slices.Insert(slices.Clone(o), at, n-1))
		}
	}
	return out
}

func TestEachOrderOfCalls(t *testing.T) {
	every := calls()
	for i, l := range some() {
		s := partsOf(l).spell()
		var want []string
		for _, call := range every {
			want = append(want, call(opened(t, s)))
		}
		for j, order := range orders(len(every)) {
			if j%8 != i {
				continue
			}
			g := opened(t, s)
			for k, call := range order {
				for _, again := range []int{call, call, order[0], order[k/2]} {
					if got := every[again](g); got != want[again] {
						t.Fatalf("R4: call %d, order %v: %s, want %s", again, order, got, want[again])
					}
				}
			}
		}
	}
}

// allocs answers how many things it makes to read b and ask the group so.
func allocs(b []byte, ask func(g *group.Group)) float64 {
	return testing.AllocsPerRun(20, func() {
		g, _ := group.Read(b)
		ask(g)
	})
}

// What was read is not read again, and what is not asked for is not read: reading makes new things.
func TestColumnsAreReadWhenTheyAreAskedFor(t *testing.T) {
	l := bare(16)
	for i := range l {
		l[i].Cells = []api.Cell{num("n", int64(i)), str("s", fmt.Sprint("t", i))}
	}
	b, _ := group.Write(l)
	ints, texts, nothing := equal("n", 100), is("s", "tt"), between(1, 2)
	scan := func(p api.Pred, flags int) func(g *group.Group) {
		return func(g *group.Group) { g.Scan(p, nil, 0, flags) }
	}
	then := func(asks ...func(g *group.Group)) func(g *group.Group) {
		return func(g *group.Group) {
			for _, ask := range asks {
				ask(g)
			}
		}
	}
	idle := func(g *group.Group) {}
	rows := func(g *group.Group) { g.Rows() }
	// step answers what it costs to ask so behind what was asked ahead.
	step := func(ask func(g *group.Group), ahead ...func(g *group.Group)) float64 {
		return allocs(b, then(append(ahead, ask)...)) - allocs(b, then(append(ahead, idle)...))
	}
	for _, c := range []struct {
		name         string
		dear, little float64
	}{
		{"Ints asked again", step(scan(ints, 0)), step(scan(ints, 0), scan(ints, 0))},
		{"Texts asked again", step(scan(texts, 0)), step(scan(texts, 0), scan(texts, 0))},
		{"Times asked again", step(scan(nothing, 0)), step(scan(nothing, 0), scan(nothing, 0))},
		{"rows asked again", step(rows), step(rows, rows)},
		{"Texts asked behind rows", step(scan(texts, 0)), step(scan(texts, 0), rows)},
		{"Texts asked behind Ints", step(scan(texts, 0), scan(ints, 0)), step(scan(texts, 0), scan(texts, 0))},
		{"Ints asked behind Texts", step(scan(ints, 0), scan(texts, 0)), step(scan(ints, 0), scan(ints, 0))},
		{"Ints asked behind Times", step(scan(ints, 0), scan(nothing, 0)), step(scan(ints, 0), scan(ints, 0))},
		{"what is told without reading", step(scan(ints, 0)), step(scan(ints, zones))},
		{"Texts asked behind what is told without reading", step(scan(texts, 0), scan(texts, zones)), step(scan(texts, 0), scan(texts, 0))},
		{"Texts behind a Kid that holds for no row", step(scan(all(ints, texts), 0), scan(texts, 0)), step(scan(all(ints, texts), 0), scan(ints, 0), scan(texts, 0))},
		{"Ints asked behind a Kid that holds for each row", step(scan(ints, 0), scan(all(not(either(not(texts), ints)), ints), 0)), step(scan(ints, 0), scan(ints, 0))},
		{"Ints asked behind marks of all", step(rows, func(g *group.Group) { g.Scan(texts, marked(16), 0, 0) }), step(rows, rows)},
	} {
		if c.dear <= c.little {
			t.Errorf("Ways: %s: makes %v things, where it need not be read %v", c.name, c.dear, c.little)
		}
	}
	// A scan that holds for no row has read no other column.
	if behind, first := step(scan(texts, 0), scan(ints, 0)), step(scan(texts, 0)); behind != first {
		t.Errorf("Ways: Texts asked behind Ints make %v things, asked first %v", behind, first)
	}
}

func TestBytesMayBeWrittenOverBehindARead(t *testing.T) {
	for _, l := range some() {
		s := partsOf(l).spell()
		for _, turn := range []byte{0, 1, 0x55, 0xff} {
			given := []byte(s)
			ahead, _ := group.Read(given)
			behind, _ := group.Read(given)
			partly, _ := group.Read(given)
			tells(t, "ahead", ahead, l)
			partly.Scan(null("s"), nil, 0, 0)
			spoil(given, turn)
			tells(t, "read ahead of what was written over", ahead, l)
			tells(t, "read behind what was written over", behind, l)
			tells(t, "read in part ahead of it", partly, l)
		}
	}
}

func TestRowsMayBeWrittenOverBehindAWrite(t *testing.T) {
	for _, l := range some() {
		given := filled(l)
		b, _ := group.Write(given)
		for _, r := range given {
			spoil(r.Cells, num("spoilt", 99))
		}
		spoil(given, at(99, 99))
		if string(b) != partsOf(l).spell() {
			t.Errorf("R2: Write's answer turned with what was handed in: %x", b)
		}
	}
}

// What a Read was refused, and what other groups were asked, is of no weight.
func TestGroupsAreApart(t *testing.T) {
	var every []*group.Group
	for _, l := range some() {
		every = append(every, open(t, l), open(t, l))
		group.Read([]byte(partsOf(l).spell() + "x"))
		group.Write(append(cloned(l), l...))
	}
	for _, back := range []bool{false, true} {
		for i := range every {
			if back {
				i = len(every) - 1 - i
			}
			tells(t, "one of many groups", every[i], some()[i/2])
		}
	}
}

// spoilRows writes over all memory of l but one of its lists: that of the row stays, or, if it is none, l itself does.
func spoilRows(l []api.Row, stays int) {
	for i, r := range l {
		if i != stays {
			spoil(r.Cells, str("spoilt", "spoilt"))
		}
	}
	if stays >= 0 {
		spoil(l, at(99, 99))
	}
}

func TestListsOfOneAnswerAreApart(t *testing.T) {
	for _, l := range some() {
		g := open(t, l)
		for stays := range l {
			rows := g.Rows()
			cells := rows[stays].Cells
			spoilRows(rows, stays)
			if !slices.Equal(cells, l[stays].Cells) {
				t.Errorf("R2: a row's cells turned with the others: %v", cells)
			}
			got, _ := g.Scan(all(), nil, 0, 0)
			cells = got[stays].Cells
			spoilRows(got, stays)
			if !slices.Equal(cells, l[stays].Cells) {
				t.Errorf("R2: a row's cells that Scan answered turned with the others: %v", cells)
			}
		}
		want := otherStats(l)
		for i := range want.Blooms {
			s := g.Stats()
			stays := s.Blooms[i]
			spoil(s.Zones, prune.Zone{Col: "spoilt"})
			for j := range s.Blooms {
				if j != i {
					spoil(s.Blooms[j].Filter.B, 0xff)
				}
			}
			spoil(s.Blooms, prune.Bloom{})
			if !sameBloom(stays, want.Blooms[i]) {
				t.Errorf("R2: a filter turned with the others: %v", stays)
			}
		}
		tells(t, "behind what was written over", g, l)
	}
}

// spoilStats writes over all memory of s.
func spoilStats(s prune.Stats) {
	for _, f := range s.Blooms {
		spoil(f.Filter.B, 0x55)
	}
	spoil(s.Blooms, prune.Bloom{Col: "spoilt"})
	spoil(s.Zones, prune.Zone{Col: "spoilt"})
}

func TestAnswersAreNewMemory(t *testing.T) {
	for _, l := range some() {
		one, _ := group.Write(l)
		two, _ := group.Write(l)
		g, _ := group.Read(two)
		spoil(one, 0xaa)
		if string(two) != partsOf(l).spell() {
			t.Errorf("R2: two answers of Write share memory: %x", two)
		}
		for range 2 {
			rows, others := g.Rows(), g.Rows()
			few, _ := g.Scan(all(), nil, 0, 0)
			more, _ := g.Scan(all(), nil, 0, dict)
			stats, otherwise := g.Stats(), g.Stats()
			index, again := g.Times(), g.Times()
			spoilRows(rows, -1)
			spoil(rows, api.Row{})
			spoilRows(few, -1)
			spoil(few, api.Row{})
			spoilStats(stats)
			spoil(index.At, -1)
			if !same(others, l) || !same(more, l) {
				t.Errorf("R2: two answers share rows: %v, %v", others, more)
			}
			if want, _ := ticks.Build(timesOf(l)); !sameStats(otherwise, otherStats(l)) || !sameIndex(again, want) {
				t.Errorf("R2: two answers share memory: %v, %v", otherwise, again)
			}
			tells(t, "behind what was written over", g, l)
			for _, p := range []api.Pred{all(), null("s"), less("x", 9), between(0, 9)} {
				askedAll(t, g, l, p)
			}
		}
	}
}

// What is written into an answer ahead of the first reading of a column is not read with it.
func TestAnswersAheadOfReading(t *testing.T) {
	for _, l := range some() {
		g := open(t, l)
		spoilStats(g.Stats())
		spoil(g.Times().At, 7)
		few, _ := g.Scan(null("s"), nil, 0, 0)
		spoilRows(few, -1)
		spoil(few, api.Row{})
		tells(t, "behind what was written over", g, l)
	}
}

// Marks and predicates that are written over behind a Scan turn no answer.
func TestWhatScanIsGivenIsNotKept(t *testing.T) {
	for _, l := range some() {
		g := open(t, l)
		gone, set := marked(len(l)), []string{"", "ab"}
		first, _ := g.Scan(either(in("s", set...), not(in("s", set...))), gone, 0, dict)
		for i := range l {
			gone.Set(i)
		}
		spoil(set, "spoilt")
		if !same(first, l) {
			t.Errorf("R2: Scan's answer turned with what was handed in: %v", first)
		}
		askedAll(t, g, l, in("s", "", "ab"))
		askedAll(t, g, l, all())
		tells(t, "behind marks of all", g, l)
	}
}

func TestNilAndEmptyAreTheSame(t *testing.T) {
	for _, l := range some() {
		empty := cloned(l)
		for i, r := range empty {
			if len(r.Cells) == 0 {
				empty[i].Cells = []api.Cell{}
			}
		}
		holds(t, "rows with empty lists", empty)
		g := open(t, empty)
		for _, p := range []api.Pred{{Kind: api.All, Kids: []api.Pred{}, Set: []string{}}, {Kind: api.In, Col: "s", Set: []string{}, Kids: []api.Pred{}}, {Kind: api.Null, Col: "s", Set: []string{}, Kids: []api.Pred{}}} {
			askedAll(t, g, l, p)
			a, _ := g.Scan(p, nil, 0, 0)
			p.Kids, p.Set = nil, nil
			if b, _ := g.Scan(p, nil, 0, 0); !same(a, b) {
				t.Errorf("R4: Scan(%v): %v with empty lists, %v with nil", p, a, b)
			}
		}
	}
}

func FuzzScan(f *testing.F) {
	for i := range 8 {
		f.Add(int64(i), int64(7*i), i-1, i)
	}
	f.Fuzz(func(t *testing.T, rows, ask int64, from, flags int) {
		r, s := rand.New(rand.NewSource(rows)), rand.New(rand.NewSource(ask))
		l := anyRows(r)
		g := open(t, l)
		for range 4 {
			asked(t, g, l, anyPred(s, 6), marked(20, s.Perm(20)[:s.Intn(20)]...), from, flags)
		}
		tells(t, "behind scans", g, l)
	})
}
