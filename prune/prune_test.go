package prune_test

import (
	"bytes"
	"cmp"
	"fmt"
	"math"
	"math/rand"
	"slices"
	"strings"
	"testing"

	"columbarium/api"
	"columbarium/bloom"
	"columbarium/pred"
	"columbarium/prune"
	"columbarium/row"
	"columbarium/zone"
)

const (
	room  = 4 // items behind a list's length
	first = math.MinInt64
	last  = math.MaxInt64

	never  = 1
	maybe  = 2
	always = 3

	zones  = api.UseZones
	blooms = api.UseBlooms
	ticks  = api.UseTicks
	whole  = 16 // all of the flags' sets
)

func every(kids ...api.Pred) api.Pred {
	return api.Pred{Kind: api.All, Kids: kids}
}

func some(kids ...api.Pred) api.Pred {
	return api.Pred{Kind: api.Any, Kids: kids}
}

func not(kids ...api.Pred) api.Pred {
	return api.Pred{Kind: api.Not, Kids: kids}
}

func less(col string, n int64) api.Pred {
	return api.Pred{Kind: api.Less, Col: col, N: n}
}

func equal(col string, n int64) api.Pred {
	return api.Pred{Kind: api.Equal, Col: col, N: n}
}

func is(col, s string) api.Pred {
	return api.Pred{Kind: api.Is, Col: col, S: s}
}

func in(col string, set ...string) api.Pred {
	return api.Pred{Kind: api.In, Col: col, Set: set}
}

func prefix(col, s string) api.Pred {
	return api.Pred{Kind: api.Prefix, Col: col, S: s}
}

func null(col string) api.Pred {
	return api.Pred{Kind: api.Null, Col: col}
}

func between(n, m int64) api.Pred {
	return api.Pred{Kind: api.Between, N: n, M: m}
}

// under answers p below so many parts of that Kind.
func under(kind, n int, p api.Pred) api.Pred {
	for range n {
		p = api.Pred{Kind: kind, Kids: []api.Pred{p}}
	}
	return p
}

// times answers so many p.
func times(n int, p api.Pred) []api.Pred {
	return slices.Repeat([]api.Pred{p}, n)
}

// ones answers one Right part of each Kind.
func ones() []api.Pred {
	return []api.Pred{every(), some(), not(null("x")), less("x", -5), equal("x", 5), is("s", "ab"), in("s", "a", "b"), prefix("s", "a"), null("y"), between(3, 7)}
}

func ints(col string, rows, nulls int, lo, hi int64) prune.Zone {
	return prune.Zone{Col: col, Zone: zone.Zone{Kind: api.Int, Rows: rows, Nulls: nulls, MinN: lo, MaxN: hi}}
}

func texts(col string, rows, nulls int, lo, hi string) prune.Zone {
	return prune.Zone{Col: col, Zone: zone.Zone{Kind: api.Text, Rows: rows, Nulls: nulls, MinS: lo, MaxS: hi}}
}

func filter(col string, l ...string) prune.Bloom {
	return prune.Bloom{Col: col, Filter: bloom.Build(l)}
}

// with answers Stats of four rows from 10 to 20 that has l's zones.
func with(l ...prune.Zone) prune.Stats {
	return prune.Stats{Rows: 4, Lo: 10, Hi: 20, Zones: l}
}

// span answers Stats of rows from lo to hi.
func span(lo, hi int64) prune.Stats {
	return prune.Stats{Rows: 4, Lo: lo, Hi: hi}
}

// plenty answers Stats of columns of each sort: x of Ints, y of Ints and a null, s of Texts, t of Texts and nulls, o of one Int alone, u of one Text alone, n of nulls.
func plenty() prune.Stats {
	s := with(ints("x", 4, 0, 5, 9), ints("y", 4, 1, 7, 7), texts("s", 4, 0, "ab", "ac"), texts("t", 4, 2, "q", "q"),
		ints("o", 4, 0, 7, 7), texts("u", 4, 0, "q", "q"), ints("n", 4, 4, 0, 0))
	s.Blooms = []prune.Bloom{filter("s", "ab", "ac"), filter("t", "q"), filter("u", "q")}
	return s
}

func sameHead(a, b api.Pred) bool {
	return a.Kind == b.Kind && a.Col == b.Col && a.N == b.N && a.M == b.M && a.S == b.S
}

func same(a, b api.Pred) bool {
	return sameHead(a, b) && slices.Equal(a.Set, b.Set) && slices.EqualFunc(a.Kids, b.Kids, same)
}

// filled answers p with parts and texts behind its own, at each depth, that would turn an answer if they were read.
func filled(p api.Pred) api.Pred {
	set := slices.Clone(p.Set)
	var kids []api.Pred
	for _, k := range p.Kids {
		kids = append(kids, filled(k))
	}
	for i := range room {
		set = append(set, []string{"zz", "zzz", "a", ""}[i])
		kids = append(kids, []api.Pred{some(), every(), {Kind: 99, Col: "spare"}, null("spare")}[i])
	}
	p.Set, p.Kids = set[:len(p.Set)], kids[:len(p.Kids)]
	return p
}

// sameFilled holds what was filled against each other, the room behind it too.
func sameFilled(a, b api.Pred) bool {
	if !sameHead(a, b) || len(a.Set) != len(b.Set) || len(a.Kids) != len(b.Kids) {
		return false
	}
	texts, kids := len(a.Set), len(a.Kids)
	return slices.Equal(a.Set[:texts+room], b.Set[:texts+room]) &&
		slices.EqualFunc(a.Kids, b.Kids, sameFilled) &&
		slices.EqualFunc(a.Kids[kids:kids+room], b.Kids[kids:kids+room], same)
}

// filledStats answers s with zones, filters and bytes behind its own that would turn an answer if they were read.
func filledStats(s prune.Stats) prune.Stats {
	out := s
	out.Zones, out.Blooms = slices.Clone(s.Zones), slices.Clone(s.Blooms)
	for i, b := range out.Blooms {
		out.Blooms[i].Filter.B = append(slices.Clone(b.Filter.B), 0xff, 0xff, 0xff, 0xff)[:len(b.Filter.B)]
	}
	for _, col := range []string{"x", "s", "y", "z"} {
		out.Zones = append(out.Zones, texts(col, 4, 0, "a", "a"))
		out.Blooms = append(out.Blooms, filter(col))
	}
	out.Zones, out.Blooms = out.Zones[:len(s.Zones)], out.Blooms[:len(s.Blooms)]
	return out
}

func sameBloom(a, b prune.Bloom) bool {
	return a.Col == b.Col && a.Filter.Bits == b.Filter.Bits && bytes.Equal(a.Filter.B, b.Filter.B)
}

func sameFilledBloom(a, b prune.Bloom) bool {
	n := len(b.Filter.B) + room
	return sameBloom(a, b) && bytes.Equal(a.Filter.B[:n], b.Filter.B[:n])
}

func sameStats(a, b prune.Stats) bool {
	nz, nb := len(b.Zones), len(b.Blooms)
	return a.Rows == b.Rows && a.Lo == b.Lo && a.Hi == b.Hi && len(a.Zones) == nz && len(a.Blooms) == nb &&
		slices.Equal(a.Zones[:nz+room], b.Zones[:nz+room]) &&
		slices.EqualFunc(a.Blooms, b.Blooms, sameFilledBloom) &&
		slices.EqualFunc(a.Blooms[nb:nb+room], b.Blooms[nb:nb+room], sameBloom)
}

// emptied answers p with lists of no length, where p has none, at each depth.
func emptied(p api.Pred) api.Pred {
	set, kids := []string{}, []api.Pred{}
	for _, k := range p.Kids {
		kids = append(kids, emptied(k))
	}
	p.Set, p.Kids = append(set, p.Set...), kids
	return p
}

func emptiedStats(s prune.Stats) prune.Stats {
	s.Zones = append([]prune.Zone{}, s.Zones...)
	s.Blooms = append([]prune.Bloom{}, s.Blooms...)
	for i, b := range s.Blooms {
		s.Blooms[i].Filter.B = append([]byte{}, b.Filter.B...)
	}
	return s
}

// nilled answers s with nil lists, where s has none.
func nilled(s prune.Stats) prune.Stats {
	s.Zones = append([]prune.Zone(nil), s.Zones...)
	s.Blooms = append([]prune.Bloom(nil), s.Blooms...)
	for i, b := range s.Blooms {
		s.Blooms[i].Filter.B = append([]byte(nil), b.Filter.B...)
	}
	return s
}

// judged holds Judge's answer against want, whatever lies behind the lists, and whatever bits there are beyond the flags that it asks.
func judged(t *testing.T, name string, p api.Pred, s prune.Stats, flags, want int) {
	t.Helper()
	if got := prune.Judge(p, s, flags); got != want {
		t.Errorf("P14.1: %s: %v of %v by %d: %d, want %d", name, p, s, flags, got, want)
	}
	given, stats := filled(p), filledStats(s)
	if got := prune.Judge(given, stats, flags); got != want {
		t.Errorf("R5: %s: %v by %d: %d, want %d: what lies behind a list was read", name, p, flags, got, want)
	}
	if !sameFilled(given, filled(p)) {
		t.Errorf("R2: %s: a predicate that was handed in was changed: %v", name, p)
	}
	if !sameStats(stats, filledStats(s)) {
		t.Errorf("R2: %s: Stats that were handed in were changed: %v", name, s)
	}
	for _, other := range []prune.Stats{emptiedStats(s), nilled(s)} {
		if got := prune.Judge(emptied(p), other, flags); got != want {
			t.Errorf("R4: %s: %v by %d: %d, want %d: by empty lists", name, p, flags, got, want)
		}
	}
	for _, bits := range []int{flags ^ api.UseDicts, flags | 1<<4, flags | ^(whole - 1), flags | 1<<40 | 1<<20} {
		if got := prune.Judge(p, s, bits); got != want {
			t.Errorf("P14.1: %s: %v by %d: %d, want %d, as by %d", name, p, bits, got, want, flags)
		}
	}
}

// wrapped holds p's judgement below other parts against want, which is p's.
func wrapped(t *testing.T, name string, p api.Pred, s prune.Stats, flags, want int) {
	t.Helper()
	turned := 4 - want
	for _, w := range []struct {
		p    api.Pred
		want int
	}{
		{every(p), want}, {some(p), want}, {not(p), turned}, {not(not(p)), want}, {not(not(not(p))), turned},
		{every(p, p), want}, {some(p, p), want}, {not(every(p)), turned}, {not(some(p)), turned}, {every(not(p)), turned}, {some(not(p)), turned},
		{every(every(), p), want}, {every(p, every()), want}, {every(some(), p), never}, {every(p, some()), never},
		{some(some(), p), want}, {some(p, some()), want}, {some(every(), p), always}, {some(p, every()), always},
		{not(every(every(), p)), turned}, {not(some(p, some())), turned}, {not(every(p, some())), always}, {not(some(every(), p)), never},
		{some(every(p, p), every(p)), want}, {every(some(p), not(not(p))), want},
	} {
		// What is deep itself is too deep below some of them.
		if !pred.Right(w.p) {
			w.want = maybe
		}
		if got := prune.Judge(w.p, s, flags); got != w.want {
			t.Errorf("P14.1: %s: %v by %d: %d, want %d", name, w.p, flags, got, w.want)
		}
	}
}

// asked holds p's judgement by flags against want, alone and below other parts.
func asked(t *testing.T, name string, p api.Pred, s prune.Stats, flags, want int) {
	t.Helper()
	judged(t, name, p, s, flags, want)
	wrapped(t, name, p, s, flags, want)
}

// byFlag holds p's judgement by every set of flags: it is want with that flag, and Maybe without it.
func byFlag(t *testing.T, name string, p api.Pred, s prune.Stats, flag, want int) {
	t.Helper()
	for flags := range whole {
		if flags&flag != 0 {
			asked(t, name, p, s, flags, want)
		} else {
			asked(t, name, p, s, flags, maybe)
		}
	}
}

func byZone(t *testing.T, name string, p api.Pred, z prune.Zone, want int) {
	t.Helper()
	byFlag(t, name, p, with(z), zones, want)
	// Other columns ahead of it and behind it, and others of its own behind it, are of no weight.
	byFlag(t, name, p, with(ints("a", 4, 0, 1, 1), texts("zz", 4, 0, "", ""), z, ints("b", 4, 4, 0, 0), texts(z.Col, 4, 0, "a", "a"), ints(z.Col, 4, 0, 5, 5), ints(z.Col, 4, 4, 0, 0)), zones, want)
}

func begins(s, with string) bool {
	return len(s) >= len(with) && s[:len(with)] == with
}

// otherZone is another reckoning of what a zone tells: what is true of its least, its greatest, and a null, if it has one.
func otherZone(p api.Pred, z zone.Zone) int {
	all := z.Rows-z.Nulls == 0
	if p.Kind == api.Null {
		switch {
		case all:
			return always
		case z.Nulls == 0:
			return never
		}
		return maybe
	}
	least, greatest := cmp.Compare(z.MinN, p.N), cmp.Compare(z.MaxN, p.N)
	kind := api.Int
	if p.Kind == api.Is || p.Kind == api.Prefix {
		least, greatest = strings.Compare(z.MinS, p.S), strings.Compare(z.MaxS, p.S)
		kind = api.Text
	}
	outside := least > 0 || greatest < 0
	both := least == 0 && greatest == 0
	switch p.Kind {
	case api.Less:
		outside, both = least >= 0, greatest < 0
	case api.Prefix:
		outside = greatest < 0 || least > 0 && !begins(z.MinS, p.S)
		both = begins(z.MinS, p.S) && begins(z.MaxS, p.S)
	}
	switch {
	case z.Kind != kind, all, outside:
		return never
	case both && z.Nulls == 0:
		return always
	}
	return maybe
}

// otherIs is another reckoning of an Is: the zone is asked first, and the filter may make less of what it says.
func otherIs(p api.Pred, s prune.Stats, flags int) int {
	said := maybe
	if flags&zones != 0 {
		said = otherZone(p, otherFirst(s, p.Col))
	}
	i := slices.IndexFunc(s.Blooms, func(b prune.Bloom) bool { return b.Col == p.Col })
	if i >= 0 && flags&blooms != 0 && !bloom.May(s.Blooms[i].Filter, p.S) {
		said = never
	}
	return said
}

func otherFirst(s prune.Stats, col string) zone.Zone {
	out := zone.Zone{Kind: api.Int, Rows: s.Rows, Nulls: s.Rows}
	for _, z := range slices.Backward(s.Zones) {
		if z.Col == col {
			out = z.Zone
		}
	}
	return out
}

// otherJudge is another reckoning of Judge, by p itself, not by its normal form: can p be true of a row, can it be false?
func otherJudge(p api.Pred, s prune.Stats, flags int) int {
	if !pred.Right(p) {
		return maybe
	}
	if s.Rows == 0 {
		return never
	}
	can, fails := otherPart(p, s, flags)
	switch {
	case !can:
		return never
	case !fails:
		return always
	}
	return maybe
}

func otherPart(p api.Pred, s prune.Stats, flags int) (can, fails bool) {
	switch p.Kind {
	case api.All:
		can = true
		for _, k := range p.Kids {
			c, f := otherPart(k, s, flags)
			can, fails = can && c, fails || f
		}
		return can, fails
	case api.Any:
		fails = true
		for _, k := range p.Kids {
			c, f := otherPart(k, s, flags)
			can, fails = can || c, fails && f
		}
		return can, fails
	case api.Not:
		can, fails = otherPart(p.Kids[0], s, flags)
		return fails, can
	}
	n := otherLeaf(p, s, flags)
	return n != never, n != always
}

func otherLeaf(p api.Pred, s prune.Stats, flags int) int {
	switch p.Kind {
	case api.Between:
		switch {
		case flags&ticks == 0:
			return maybe
		case p.N > p.M, p.N > s.Hi, p.M < s.Lo:
			return never
		case p.N <= s.Lo && p.M >= s.Hi:
			return always
		}
		return maybe
	case api.In:
		said := []int{never}
		for _, x := range p.Set {
			said = append(said, otherIs(is(p.Col, x), s, flags))
		}
		return slices.Max(said)
	case api.Is:
		return otherIs(p, s, flags)
	}
	if flags&zones == 0 {
		return maybe
	}
	return otherZone(p, otherFirst(s, p.Col))
}

func TestTheChaptersRun(t *testing.T) {
	asked(t, "the chapter's run", less("x", 5), with(ints("x", 4, 0, 5, 9)), zones, never)
	for flags := range whole {
		asked(t, "the chapter's first example", in("s"), plenty(), flags, never)
	}
	if prune.Never != 1 || prune.Maybe != 2 || prune.Always != 3 {
		t.Errorf("P14.1: %d %d %d", prune.Never, prune.Maybe, prune.Always)
	}
}

func TestWithoutFlags(t *testing.T) {
	for _, flags := range []int{0, api.UseDicts, 1 << 4, ^(whole - 1)} {
		for _, p := range []api.Pred{less("x", 5), less("x", 10), equal("o", 7), equal("o", 8), is("u", "q"), is("u", "r"), is("s", "zz"), in("u", "q"), in("u", "r"), in("s", "x", "y"),
			prefix("s", "a"), prefix("s", "b"), null("x"), null("n"), null("z"), between(10, 20), between(21, 30), between(7, 5)} {
			asked(t, "the chapter's second example", p, plenty(), flags, maybe)
		}
		for _, col := range []string{"s", "x", "n", "z"} {
			asked(t, "an In of none", in(col), plenty(), flags, never)
		}
		asked(t, "an All of none", every(), plenty(), flags, always)
		asked(t, "an Any of none", some(), plenty(), flags, never)
		asked(t, "an All of maybe and never", every(null("x"), in("s")), plenty(), flags, never)
		asked(t, "an Any of maybe and always", some(null("x"), not(in("s"))), plenty(), flags, always)
	}
}

// wrong answers predicates that are not Right, each by one thing alone.
func wrong() []api.Pred {
	long := strings.Repeat("a", api.MaxText+1)
	return []api.Pred{
		{}, {Kind: -1}, {Kind: 11}, {Kind: 99, Col: "x"}, {Kind: first}, {Kind: last},
		not(), not(every(), every()), not(not(), every()), every(not()), some(every(), not()), not(api.Pred{}),
		less("", 5), less("X", 5), less("x1", 5), less(strings.Repeat("x", api.MaxName+1), 5), equal("", 5), is("", "a"), in("", "a"), prefix("", "a"), null(""), null("a b"),
		is("s", long), prefix("s", long), in("s", long), in("s", "b", "a"), in("s", "a", "a"), in("s", "a", "b", "c", "d", "e", "f", "g", "h", "i"),
		{Kind: api.All, N: 1}, {Kind: api.Any, Col: "x"}, {Kind: api.Null, Col: "x", S: "a"}, {Kind: api.Less, Col: "x", M: 1}, {Kind: api.Between, Col: "x"},
		{Kind: api.Is, Col: "s", Set: []string{"a"}}, {Kind: api.In, Col: "s", S: "a"}, {Kind: api.Null, Col: "x", Kids: []api.Pred{every()}},
		under(api.Not, api.MaxDeep, every()), under(api.All, api.MaxDeep, every()), under(api.Any, api.MaxDeep, null("x")),
		every(times(api.MaxSize, some())...), some(times(api.MaxSize, every())...),
	}
}

func TestWhatIsNotRight(t *testing.T) {
	stats := []prune.Stats{{}, plenty(), {Rows: -1}, {Rows: 0, Lo: 1, Hi: 9, Zones: plenty().Zones}, {Rows: 1, Lo: 9, Hi: 1}}
	for i, p := range wrong() {
		for _, s := range stats {
			for flags := range whole {
				judged(t, fmt.Sprint("not Right ", i), p, s, flags, maybe)
				// One Kid that is not Right is enough: the others are not asked any more.
				judged(t, fmt.Sprint("not Right, below ", i), every(some(), p), s, flags, maybe)
				judged(t, fmt.Sprint("not Right, below ", i), some(every(), p), s, flags, maybe)
				judged(t, fmt.Sprint("not Right, below ", i), not(p), s, flags, maybe)
			}
		}
	}
}

func TestTheBoundsOfWhatIsRight(t *testing.T) {
	s := plenty()
	deep := api.MaxDeep - 1
	for flags := range whole {
		judged(t, "six deep", under(api.All, deep, some()), s, flags, never)
		judged(t, "six deep", under(api.Any, deep, every()), s, flags, always)
		judged(t, "six deep, five Nots", under(api.Not, deep, every()), s, flags, never)
		judged(t, "six deep, five Nots", under(api.Not, deep, some()), s, flags, always)
		judged(t, "five deep, four Nots", under(api.Not, deep-1, some()), s, flags, never)
		judged(t, "forty parts", every(times(api.MaxSize-1, every())...), s, flags, always)
		judged(t, "forty parts", every(append(times(api.MaxSize-2, every()), some())...), s, flags, never)
		judged(t, "forty parts", some(times(api.MaxSize-1, some())...), s, flags, never)
		judged(t, "forty parts", some(append(times(api.MaxSize-2, some()), every())...), s, flags, always)
		judged(t, "eight texts", in("z", "a", "b", "c", "d", "e", "f", "g", "h"), s, flags, []int{maybe, never}[flags&zones])
		judged(t, "a text of forty bytes", is("z", strings.Repeat("a", api.MaxText)), s, flags, []int{maybe, never}[flags&zones])
		judged(t, "a name of twelve bytes", null(strings.Repeat("x", api.MaxName)), s, flags, []int{maybe, always}[flags&zones])
	}
}

// A normal form that has more than MaxSize parts is judged too.
func TestNormalFormsThatAreNotRight(t *testing.T) {
	s := plenty()
	n := api.MaxSize - 2
	for _, c := range []struct {
		name string
		p    api.Pred
		want int
	}{
		{"Nots of what is always", not(every(times(n, null("n"))...)), never},
		{"Nots of what is never", not(some(times(n, null("x"))...)), always},
		{"Nots of what is always, of one that is never", not(every(append(times(n-1, null("n")), null("x"))...)), always},
		{"Nots of what is never, of one that is always", not(some(append(times(n-1, null("x")), null("n"))...)), never},
		{"Nots of what is always, of one that may be", not(every(append(times(n-1, null("n")), null("y"))...)), maybe},
		{"Nots of what is never, of one that may be", not(some(append(times(n-1, null("x")), null("y"))...)), maybe},
	} {
		if !pred.Right(c.p) || pred.Right(pred.Normal(c.p)) {
			t.Fatalf("%s: no good input", c.name)
		}
		judged(t, c.name, c.p, s, zones, c.want)
	}
}

func TestNoRows(t *testing.T) {
	for _, s := range []prune.Stats{{}, {Lo: 10, Hi: 20, Zones: plenty().Zones, Blooms: plenty().Blooms}, {Lo: 1}} {
		for flags := range whole {
			for _, p := range append(ones(), not(every()), not(some()), not(in("s")), not(null("x")), every(some()), some(every()), less("x", 10), null("n"), is("u", "q"), between(10, 20), between(first, last)) {
				judged(t, "no rows", p, s, flags, never)
			}
		}
	}
}

func TestRowsBelowZero(t *testing.T) {
	for _, rows := range []int{-1, -4, math.MinInt} {
		s := plenty()
		s.Rows = rows
		for flags := range whole {
			for _, p := range append(ones(), null("z"), less("z", 5), is("z", "a"), not(prefix("z", ""))) {
				judged(t, "Rows below 0", p, s, flags, otherJudge(p, s, flags))
			}
			asked(t, "Rows below 0", every(), s, flags, always)
		}
		asked(t, "Rows below 0, without a zone", null("z"), s, zones, always)
		asked(t, "Rows below 0, without a zone", less("z", 5), s, zones, never)
		asked(t, "Rows below 0", less("x", 5), s, zones, never)
		asked(t, "Rows below 0", between(10, 20), s, ticks, always)
	}
}

// three answers what is Never, Maybe and Always by plenty's zones.
func three() []api.Pred {
	return []api.Pred{null("x"), null("y"), null("n")}
}

func TestKids(t *testing.T) {
	s := plenty()
	for i, a := range three() {
		asked(t, "one Kid", a, s, zones, 1+i)
		asked(t, "a Not", not(null([]string{"n", "y", "x"}[i])), s, zones, 1+i)
		for j, b := range three() {
			asked(t, "an All of two", every(a, b), s, zones, 1+min(i, j))
			asked(t, "an Any of two", some(a, b), s, zones, 1+max(i, j))
			asked(t, "a Not of an All of two", not(every(a, b)), s, zones, 3-min(i, j))
			asked(t, "a Not of an Any of two", not(some(a, b)), s, zones, 3-max(i, j))
			for k, c := range three() {
				asked(t, "an All of three", every(a, b, c), s, zones, 1+min(i, j, k))
				asked(t, "an Any of three", some(a, b, c), s, zones, 1+max(i, j, k))
				asked(t, "an All of an Any", every(a, some(b, c)), s, zones, 1+min(i, max(j, k)))
				asked(t, "an Any of an All", some(every(a, b), c), s, zones, 1+max(min(i, j), k))
				asked(t, "an All of an All", every(a, every(b, c)), s, zones, 1+min(i, j, k))
				asked(t, "an Any of an Any", some(some(a, b), c), s, zones, 1+max(i, j, k))
				asked(t, "an All of a Not of an Any", every(a, not(some(b, c))), s, zones, 1+min(i, 2-max(j, k)))
				asked(t, "an Any of a Not of an All", some(not(every(a, b)), c), s, zones, 1+max(2-min(i, j), k))
				asked(t, "a Not of an All of Nots", not(every(not(a), not(b), not(c))), s, zones, 1+max(i, j, k))
				asked(t, "a Not of an Any of Nots", not(some(not(a), not(b), not(c))), s, zones, 1+min(i, j, k))
			}
		}
	}
	asked(t, "an All of none", every(), s, zones, always)
	asked(t, "an Any of none", some(), s, zones, never)
	for n := range 6 {
		judged(t, "Nots of what is never", under(api.Not, min(n, 5), null("x")), s, zones, []int{never, always}[n%2])
		judged(t, "Nots of what may be", under(api.Not, min(n, 5), null("y")), s, zones, maybe)
		judged(t, "Nots of what is always", under(api.Not, min(n, 5), null("n")), s, zones, []int{always, never}[n%2])
	}
}

func TestBetween(t *testing.T) {
	for _, c := range []struct {
		name string
		n, m int64
		want int
	}{
		{"from the first to the last", 10, 20, always}, {"more than that", 9, 21, always}, {"from the first on", 10, 21, always}, {"till the last", 9, 20, always}, {"all times", first, last, always},
		{"behind the first", 11, 20, maybe}, {"behind the first, past the last", 11, 21, maybe}, {"till ahead of the last", 10, 19, maybe}, {"from ahead, till ahead of the last", 9, 19, maybe}, {"within", 14, 16, maybe}, {"one within", 15, 15, maybe},
		{"the last alone", 20, 20, maybe}, {"from the last on", 20, 30, maybe}, {"behind the last", 21, 30, never}, {"behind the last alone", 21, 21, never}, {"from far behind on", last, last, never},
		{"the first alone", 10, 10, maybe}, {"till the first", 5, 10, maybe}, {"ahead of the first", 5, 9, never}, {"ahead of the first alone", 9, 9, never}, {"far ahead", first, first, never},
		{"M below N, within", 16, 15, never}, {"M far below N, within", 20, 10, never}, {"M below N, about", 21, 9, never}, {"M below N, all times", last, first, never}, {"M below N, behind", 31, 30, never}, {"M below N, ahead", 3, 2, never}, {"M below N by one at the first", 11, 10, never}, {"M below N by one at the last", 20, 19, never},
	} {
		byFlag(t, c.name, between(c.n, c.m), span(10, 20), ticks, c.want)
	}
	byFlag(t, "one time", between(7, 7), span(7, 7), ticks, always)
	byFlag(t, "one time", between(6, 7), span(7, 7), ticks, always)
	byFlag(t, "one time", between(7, 8), span(7, 7), ticks, always)
	byFlag(t, "one time, ahead", between(6, 6), span(7, 7), ticks, never)
	byFlag(t, "one time, behind", between(8, 8), span(7, 7), ticks, never)
	byFlag(t, "all times", between(first, last), span(first, last), ticks, always)
	byFlag(t, "all times, but one", between(first+1, last), span(first, last), ticks, maybe)
	byFlag(t, "all times, but one", between(first, last-1), span(first, last), ticks, maybe)
	byFlag(t, "times about 0", between(-5, -1), span(-1, 1), ticks, maybe)
	byFlag(t, "times below 0", between(-5, -2), span(-1, 1), ticks, never)
	byFlag(t, "times from 0 on", between(0, 0), prune.Stats{Rows: 1}, ticks, always)
	// The zones and filters say nothing of times.
	byFlag(t, "beside zones", between(21, 30), plenty(), ticks, never)
	byFlag(t, "beside zones", between(10, 20), plenty(), ticks, always)
	byFlag(t, "beside zones", between(11, 20), plenty(), ticks, maybe)
}

func TestTimesThatAreNotSo(t *testing.T) {
	// Hi is below Lo: what is told first, Never, holds.
	byFlag(t, "between Hi and Lo", between(5, 7), span(10, 1), ticks, never)
	byFlag(t, "Hi at N", between(1, 9), span(10, 1), ticks, never)
	byFlag(t, "M at Lo", between(5, 10), span(10, 1), ticks, never)
	byFlag(t, "Hi at N, M at Lo", between(1, 10), span(10, 1), ticks, always)
	byFlag(t, "N at Lo", between(10, 20), span(10, 1), ticks, never)
	byFlag(t, "all times", between(first, last), span(last, first), ticks, always)
	for n := int64(-1); n <= 12; n++ {
		for m := int64(-1); m <= 12; m++ {
			s := span(10, 1)
			judged(t, "Hi below Lo", between(n, m), s, ticks, otherJudge(between(n, m), s, ticks))
		}
	}
}

func TestNull(t *testing.T) {
	for _, c := range []struct {
		name string
		z    prune.Zone
		want int
	}{
		{"Ints, no null", ints("x", 4, 0, 5, 9), never}, {"Ints, one null", ints("x", 4, 1, 5, 9), maybe}, {"Ints, three nulls", ints("x", 4, 3, 5, 5), maybe}, {"Ints, all null", ints("x", 4, 4, 0, 0), always},
		{"Texts, no null", texts("x", 4, 0, "a", "b"), never}, {"Texts, one null", texts("x", 4, 1, "a", "b"), maybe}, {"Texts, three nulls", texts("x", 4, 3, "", ""), maybe}, {"Texts, all null", texts("x", 4, 4, "", ""), always},
		{"one row, no null", ints("x", 1, 0, 0, 0), never}, {"one row, all null", ints("x", 1, 1, 0, 0), always}, {"many rows", ints("x", 1<<20, 1<<20-1, 0, 0), maybe}, {"many nulls", ints("x", 1<<20, 1<<20, 0, 0), always},
		{"a zone of no rows", ints("x", 0, 0, 0, 0), always}, {"a zone of no rows, of Texts", texts("x", 0, 0, "", ""), always},
		{"a zone of its own number of rows", ints("x", 2, 2, 0, 0), always}, {"as many nulls as rows of the Stats", ints("x", 9, 4, 1, 1), maybe},
		{"no Kind, no null", prune.Zone{Col: "x", Zone: zone.Zone{Rows: 4}}, never}, {"no Kind, all null", prune.Zone{Col: "x", Zone: zone.Zone{Kind: 7, Rows: 4, Nulls: 4}}, always},
	} {
		byZone(t, c.name, null("x"), c.z, c.want)
	}
	byFlag(t, "no zone of that Col", null("x"), with(), zones, always)
	byFlag(t, "no zone of that Col", null("x"), with(ints("y", 4, 0, 1, 1), texts("xx", 4, 0, "a", "a"), texts("", 4, 0, "a", "a"), ints("X", 4, 0, 1, 1)), zones, always)
	for _, rows := range []int{1, 2, 1 << 20, 1<<20 + 1, math.MaxInt, -1} {
		byFlag(t, "no zone of that Col", null("x"), prune.Stats{Rows: rows}, zones, always)
	}
	// A filter tells nothing of nulls.
	s := with()
	s.Blooms = []prune.Bloom{filter("x", "a")}
	byFlag(t, "a filter of that Col", null("x"), s, zones, always)
}

// noInts answers zones of column x that no Int is in.
func noInts() []prune.Zone {
	return []prune.Zone{ints("x", 4, 4, 0, 0), ints("x", 0, 0, 0, 0), texts("x", 4, 4, "", ""), texts("x", 4, 0, "", "z"), texts("x", 4, 1, "a", "a"), texts("x", 0, 0, "", ""),
		{Col: "x", Zone: zone.Zone{Rows: 4, MinN: 0, MaxN: 9}}, {Col: "x", Zone: zone.Zone{Kind: 3, Rows: 4, MinN: 0, MaxN: 9}}, {Col: "x", Zone: zone.Zone{Kind: -1, Rows: 4}}, {Col: "x", Zone: zone.Zone{Kind: api.Text, Rows: 4, MinN: 5, MaxN: 5}}}
}

// noTexts answers zones of column s that no Text is in.
func noTexts() []prune.Zone {
	return []prune.Zone{texts("s", 4, 4, "", ""), texts("s", 0, 0, "", ""), ints("s", 4, 4, 0, 0), ints("s", 4, 0, 0, 9), ints("s", 4, 1, 7, 7), ints("s", 0, 0, 0, 0),
		{Col: "s", Zone: zone.Zone{Rows: 4, MinS: "", MaxS: "z"}}, {Col: "s", Zone: zone.Zone{Kind: 3, Rows: 4, MinS: "a", MaxS: "a"}}, {Col: "s", Zone: zone.Zone{Kind: -1, Rows: 4}}, {Col: "s", Zone: zone.Zone{Kind: api.Int, Rows: 4, MinS: "a", MaxS: "a"}}}
}

func TestLess(t *testing.T) {
	for _, c := range []struct {
		name  string
		n     int64
		nulls int
		want  int
	}{
		{"below MinN", 4, 0, never}, {"far below MinN", first, 0, never}, {"at MinN", 5, 0, never}, {"above MinN", 6, 0, maybe}, {"below MaxN", 8, 0, maybe}, {"at MaxN", 9, 0, maybe}, {"above MaxN", 10, 0, always}, {"far above MaxN", last, 0, always},
		{"below MinN, a null", 4, 1, never}, {"at MinN, a null", 5, 1, never}, {"above MinN, a null", 6, 1, maybe}, {"at MaxN, a null", 9, 1, maybe}, {"above MaxN, a null", 10, 1, maybe}, {"far above MaxN, three nulls", last, 3, maybe},
	} {
		byZone(t, c.name, less("x", c.n), ints("x", 4, c.nulls, 5, 9), c.want)
	}
	byZone(t, "one number, at it", less("x", 7), ints("x", 4, 0, 7, 7), never)
	byZone(t, "one number, above it", less("x", 8), ints("x", 4, 0, 7, 7), always)
	byZone(t, "numbers below 0", less("x", 0), ints("x", 4, 0, -9, -1), always)
	byZone(t, "numbers below 0", less("x", -1), ints("x", 4, 0, -9, -1), maybe)
	byZone(t, "numbers below 0", less("x", -9), ints("x", 4, 0, -9, -1), never)
	byZone(t, "the least number", less("x", first), ints("x", 4, 0, first, first), never)
	byZone(t, "above the least number", less("x", first+1), ints("x", 4, 0, first, first), always)
	byZone(t, "the greatest number", less("x", last), ints("x", 4, 0, last, last), never)
	byZone(t, "all numbers", less("x", last), ints("x", 4, 0, first, last), maybe)
	byZone(t, "numbers of 0", less("x", 1), ints("x", 4, 0, 0, 0), always)
	for _, z := range noInts() {
		for _, n := range []int64{first, -1, 0, 1, 5, 6, 10, last} {
			byZone(t, "no Ints", less("x", n), z, never)
		}
	}
	byFlag(t, "no zone of that Col", less("x", last), with(), zones, never)
	byFlag(t, "no zone of that Col", less("x", last), with(ints("y", 4, 0, 1, 1), ints("xx", 4, 0, 1, 1)), zones, never)
}

func TestEqual(t *testing.T) {
	for _, c := range []struct {
		name   string
		lo, hi int64
		nulls  int
		want   int
	}{
		{"below both", 8, 9, 0, never}, {"below both by far", last, last, 0, never}, {"at MinN", 7, 9, 0, maybe}, {"within", 5, 9, 0, maybe}, {"at MaxN", 5, 7, 0, maybe}, {"above both", 5, 6, 0, never}, {"above both by far", first, first, 0, never}, {"both", 7, 7, 0, always}, {"among all", first, last, 0, maybe},
		{"below both, a null", 8, 9, 1, never}, {"at MinN, a null", 7, 9, 1, maybe}, {"within, a null", 5, 9, 1, maybe}, {"at MaxN, a null", 5, 7, 1, maybe}, {"above both, a null", 5, 6, 1, never}, {"both, a null", 7, 7, 1, maybe}, {"both, three nulls", 7, 7, 3, maybe},
		{"one below", 6, 6, 0, never}, {"one above", 8, 8, 0, never},
	} {
		byZone(t, c.name, equal("x", 7), ints("x", 4, c.nulls, c.lo, c.hi), c.want)
	}
	for _, n := range []int64{first, -1, 0, 1, last} {
		byZone(t, "both", equal("x", n), ints("x", 4, 0, n, n), always)
	}
	for _, z := range noInts() {
		for _, n := range []int64{first, -1, 0, 1, 5, last} {
			byZone(t, "no Ints", equal("x", n), z, never)
		}
	}
	byFlag(t, "no zone of that Col", equal("x", 0), with(), zones, never)
	byFlag(t, "no zone of that Col", equal("x", 7), with(ints("y", 4, 0, 7, 7), ints("xx", 4, 0, 7, 7)), zones, never)
}

func TestIsByZones(t *testing.T) {
	for _, c := range []struct {
		name  string
		s     string
		nulls int
		want  int
	}{
		{"nothing", "", 0, never}, {"below MinS", "a", 0, never}, {"just below MinS", "azzz", 0, never}, {"at MinS", "b", 0, maybe}, {"just above MinS", "b\x00", 0, maybe}, {"within", "c", 0, maybe}, {"just below MaxS", "czzz", 0, maybe}, {"at MaxS", "d", 0, maybe}, {"just above MaxS", "d\x00", 0, never}, {"above MaxS", "e", 0, never}, {"far above MaxS", "\xff", 0, never},
		{"below MinS, a null", "a", 1, never}, {"at MinS, a null", "b", 1, maybe}, {"within, a null", "c", 1, maybe}, {"at MaxS, a null", "d", 1, maybe}, {"above MaxS, a null", "e", 1, never},
	} {
		byZone(t, c.name, is("s", c.s), texts("s", 4, c.nulls, "b", "d"), c.want)
		byZone(t, c.name, in("s", c.s), texts("s", 4, c.nulls, "b", "d"), c.want)
	}
	for _, s := range []string{"", "a", "\x00", "\xff", "\xc3\xa9", "\xff\xfe", strings.Repeat("q", api.MaxText)} {
		byZone(t, "both", is("s", s), texts("s", 4, 0, s, s), always)
		byZone(t, "both, a null", is("s", s), texts("s", 4, 1, s, s), maybe)
		byZone(t, "both", in("s", s), texts("s", 4, 0, s, s), always)
		byZone(t, "at MinS alone", is("s", s), texts("s", 4, 0, s, s+"a"), maybe)
		byZone(t, "both above", is("s", s), texts("s", 4, 0, s+"\x00", s+"\x00"), never)
		if s != "" {
			byZone(t, "at MaxS alone", is("s", s), texts("s", 4, 0, "", s), maybe)
			byZone(t, "both below", is("s", s), texts("s", 4, 0, "", s[:len(s)-1]), never)
		}
	}
	for _, z := range noTexts() {
		for _, s := range []string{"", "a", "z", "\xff"} {
			byZone(t, "no Texts", is("s", s), z, never)
			byZone(t, "no Texts", in("s", s), z, never)
			byZone(t, "no Texts", prefix("s", s), z, never)
		}
	}
	for _, p := range []api.Pred{is("s", ""), is("s", "a"), in("s", "", "a"), prefix("s", ""), prefix("s", "a")} {
		byFlag(t, "no zone of that Col", p, with(), zones, never)
		byFlag(t, "no zone of that Col", p, with(texts("t", 4, 0, "a", "a"), texts("ss", 4, 0, "a", "a"), texts("", 4, 0, "a", "a")), zones, never)
	}
}

func TestPrefix(t *testing.T) {
	for _, c := range []struct {
		name      string
		lo, hi, s string
		want      int
	}{
		{"MaxS below S", "a", "az", "b", never}, {"MaxS just below S", "a", "a", "a\x00", never}, {"MaxS is the beginning of S", "a", "b", "bc", never}, {"MaxS at S", "a", "b", "b", maybe}, {"MaxS begins with S", "a", "bz", "b", maybe}, {"MaxS above S, without it", "a", "c", "b", maybe}, {"MaxS just above what begins with S", "b", "c", "b", maybe},
		{"MinS at S", "b", "c", "b", maybe}, {"MinS begins with S", "bz", "c", "b", maybe}, {"MinS begins with S, the last of them", "b\xff\xff", "c", "b", maybe}, {"MinS above S, without it", "c", "d", "b", never}, {"MinS just above what begins with S", "c", "c", "b", never}, {"MinS above S, unlike at its last byte", "abd", "abz", "abc", never}, {"MinS below S, unlike at its last byte", "abb", "abz", "abc", maybe}, {"MinS the beginning of S", "ab", "abz", "abc", maybe}, {"MinS the beginning of S, MaxS it", "ab", "abc", "abc", maybe},
		{"both at S", "b", "b", "b", always}, {"both begin with S", "ba", "bz", "b", always}, {"MinS at S, MaxS begins with it", "b", "bz", "b", always}, {"both the last that begin with S", "b\xff", "b\xff", "b", always}, {"both begin with a part of S", "ba", "bz", "bb", maybe}, {"both the beginning of S", "b", "b", "ba", never},
		{"nothing, all", "", "", "", always}, {"nothing", "a", "z", "", always}, {"nothing, from nothing on", "", "z", "", always}, {"nothing, bytes", "\x00", "\xff", "", always},
		{"a byte of a letter", "\xc3\xa4", "\xc3\xbc", "\xc3", always}, {"a byte that ends a letter", "\xc3\xa4", "\xc3\xbc", "\xa4", never}, {"the greatest byte", "a", "\xff\xff", "\xff", maybe}, {"the least byte", "\x00", "\x00\x00", "\x00", always}, {"the least byte, from nothing on", "", "\x00", "\x00", maybe}, {"large and small", "A", "Z", "a", never}, {"large and small", "a", "z", "A", never},
	} {
		byZone(t, c.name, prefix("s", c.s), texts("s", 4, 0, c.lo, c.hi), c.want)
		for nulls := 1; nulls < 4; nulls++ {
			byZone(t, c.name+", with nulls", prefix("s", c.s), texts("s", 4, nulls, c.lo, c.hi), min(c.want, maybe))
		}
	}
	long := strings.Repeat("q", api.MaxText)
	byZone(t, "a long one", prefix("s", long), texts("s", 4, 0, long, long), always)
	byZone(t, "a long one, of which one byte is not there", prefix("s", long), texts("s", 4, 0, long[1:], long), maybe)
	byZone(t, "a long one, not there", prefix("s", long), texts("s", 4, 0, long[1:], long[1:]), never)
	// Filters tell nothing of beginnings.
	s := with(texts("s", 4, 0, "ab", "ac"))
	s.Blooms = []prune.Bloom{filter("s", "ab", "ac")}
	byFlag(t, "a filter of that Col", prefix("s", "a"), s, zones, always)
	byFlag(t, "a filter of that Col", prefix("s", "abc"), s, zones, maybe)
}

// absent answers texts that f surely has not.
func absent(t *testing.T, f bloom.Filter, l ...string) []string {
	t.Helper()
	for _, s := range l {
		if bloom.May(f, s) {
			t.Fatalf("no good input: %q may be", s)
		}
	}
	return l
}

func TestIsByFilters(t *testing.T) {
	s := prune.Stats{Rows: 4, Lo: 10, Hi: 20, Blooms: []prune.Bloom{filter("s", "ab", "ac", "")}}
	no := absent(t, s.Blooms[0].Filter, "aa", "zzz", "\xff", strings.Repeat("q", api.MaxText))
	for _, x := range no {
		for flags := range whole {
			want := maybe
			if flags&(blooms|zones) != 0 { // There is no zone of s: all are null.
				want = never
			}
			asked(t, "a text that is not there", is("s", x), s, flags, want)
			asked(t, "a text that is not there", in("s", x), s, flags, want)
		}
		asked(t, "texts that are not there", in("s", "aa", "zzz"), s, blooms, never)
		asked(t, "a text of another column", is("t", x), s, blooms, maybe)
		asked(t, "a text of a column with that beginning", is("ss", x), s, blooms, maybe)
		asked(t, "a beginning that is not there", prefix("s", x), s, blooms, maybe)
		asked(t, "by no filter", is("s", x), prune.Stats{Rows: 4}, blooms, maybe)
	}
	for _, x := range []string{"ab", "ac", ""} {
		asked(t, "a text that is there", is("s", x), s, blooms, maybe)
		asked(t, "a text that is there", in("s", x), s, blooms, maybe)
		asked(t, "a text that is there", is("s", x), s, blooms|zones, never) // There is no zone of s.
		asked(t, "a text that is not of another column", is("t", x), s, blooms, maybe)
	}
	none := prune.Stats{Rows: 4, Blooms: []prune.Bloom{filter("s")}}
	for _, x := range []string{"", "a", "ab"} {
		asked(t, "a filter of none", is("s", x), none, blooms, never)
		asked(t, "a filter of none", in("s", x), none, blooms, never)
		asked(t, "a filter of none, without the flag", is("s", x), none, ticks, maybe)
	}
	for _, p := range []api.Pred{prefix("s", "a"), prefix("s", ""), null("s"), less("s", 5), equal("s", 5), between(1, 2)} {
		asked(t, "a filter of none, of what no filter tells", p, none, blooms, maybe)
	}
}

func TestTheFirstFilter(t *testing.T) {
	full, other, none := filter("s", "ab"), filter("t", "zz"), filter("s")
	absent(t, none.Filter, "ab")
	absent(t, other.Filter, "ab")
	bad := prune.Bloom{Col: "s"}
	short := prune.Bloom{Col: "s", Filter: bloom.Filter{Bits: 64, B: make([]byte, 7)}}
	long := prune.Bloom{Col: "s", Filter: bloom.Filter{Bits: 64, B: make([]byte, 9)}}
	odd := prune.Bloom{Col: "s", Filter: bloom.Filter{Bits: 65, B: make([]byte, 8)}}
	below := prune.Bloom{Col: "s", Filter: bloom.Filter{Bits: -64, B: make([]byte, 8)}}
	for _, c := range []struct {
		name string
		l    []prune.Bloom
		want int
	}{
		{"one that has it", []prune.Bloom{full}, maybe}, {"one that has it not", []prune.Bloom{none}, never}, {"one that has it, one that has not", []prune.Bloom{full, none}, maybe}, {"one that has it not, one that has", []prune.Bloom{none, full}, never},
		{"another column's ahead", []prune.Bloom{other, full, none}, maybe}, {"another column's ahead", []prune.Bloom{other, none, full}, never}, {"another column's behind", []prune.Bloom{full, other}, maybe}, {"another column's alone", []prune.Bloom{other}, maybe}, {"none", nil, maybe},
		{"those of columns with names alike", []prune.Bloom{filter("ss"), filter(""), filter("S"), filter("as"), full}, maybe}, {"those of columns with names alike alone", []prune.Bloom{filter("ss"), filter(""), filter("S"), filter("as")}, maybe},
		{"one that is not Right", []prune.Bloom{bad}, maybe}, {"one that is not Right ahead", []prune.Bloom{bad, none}, maybe}, {"one that is not Right behind", []prune.Bloom{none, bad}, never},
		{"a short one ahead", []prune.Bloom{short, none}, maybe}, {"a long one ahead", []prune.Bloom{long, none}, maybe}, {"an odd one ahead", []prune.Bloom{odd, none}, maybe}, {"one below 0 ahead", []prune.Bloom{below, none}, maybe},
	} {
		s := prune.Stats{Rows: 4, Blooms: c.l}
		asked(t, c.name, is("s", "ab"), s, blooms, c.want)
		asked(t, c.name, in("s", "ab"), s, blooms, c.want)
		asked(t, c.name, is("s", "ab"), s, 0, maybe)
		// With a zone that says nothing of it.
		s.Zones = []prune.Zone{texts("s", 4, 0, "a", "c")}
		asked(t, c.name, is("s", "ab"), s, blooms|zones, c.want)
		asked(t, c.name, is("s", "ab"), s, zones, maybe)
	}
}

func TestFiltersBesideZones(t *testing.T) {
	has, lacks := filter("s", "b"), filter("s", "zz")
	absent(t, lacks.Filter, "b")
	for _, c := range []struct {
		name      string
		z         prune.Zone
		b         prune.Bloom
		byZ, both int
	}{
		{"the zone never, the filter maybe", texts("s", 4, 0, "c", "d"), has, never, never},
		{"the zone never, the filter never", texts("s", 4, 0, "c", "d"), lacks, never, never},
		{"the zone maybe, the filter maybe", texts("s", 4, 0, "a", "d"), has, maybe, maybe},
		{"the zone maybe, the filter never", texts("s", 4, 0, "a", "d"), lacks, maybe, never},
		{"the zone maybe for a null, the filter never", texts("s", 4, 1, "b", "b"), lacks, maybe, never},
		{"the zone always, the filter maybe", texts("s", 4, 0, "b", "b"), has, always, always},
		{"the zone always, the filter never: they contradict each other", texts("s", 4, 0, "b", "b"), lacks, always, never},
		{"a zone of Ints, the filter maybe", ints("s", 4, 0, 1, 9), has, never, never},
	} {
		s := prune.Stats{Rows: 4, Zones: []prune.Zone{c.z}, Blooms: []prune.Bloom{c.b}}
		byB := maybe
		if !bloom.May(c.b.Filter, "b") {
			byB = never
		}
		for _, p := range []api.Pred{is("s", "b"), in("s", "b")} {
			asked(t, c.name, p, s, zones, c.byZ)
			asked(t, c.name, p, s, blooms, byB)
			asked(t, c.name, p, s, zones|blooms, c.both)
			asked(t, c.name, p, s, ticks, maybe)
		}
	}
}

func TestTheFirstZone(t *testing.T) {
	one, nine, none := ints("x", 4, 0, 1, 1), ints("x", 4, 0, 9, 9), ints("x", 4, 4, 0, 0)
	bad := prune.Zone{Col: "x", Zone: zone.Zone{Kind: 5, Rows: -3, Nulls: 7}}
	for _, c := range []struct {
		name string
		l    []prune.Zone
		want int
	}{
		{"1, 9", []prune.Zone{one, nine}, always}, {"9, 1", []prune.Zone{nine, one}, never}, {"nulls, 1", []prune.Zone{none, one}, never}, {"1, nulls", []prune.Zone{one, none}, always},
		{"one that is not Right, 1", []prune.Zone{bad, one}, never}, {"1, one that is not Right", []prune.Zone{one, bad}, always}, {"another's, 1, 9", []prune.Zone{ints("y", 4, 0, 9, 9), one, nine}, always}, {"another's, 9, 1", []prune.Zone{ints("y", 4, 0, 1, 1), nine, one}, never},
		{"Texts, 1", []prune.Zone{texts("x", 4, 0, "a", "a"), one}, never},
	} {
		byFlag(t, c.name, equal("x", 1), with(c.l...), zones, c.want)
	}
	byFlag(t, "of nulls, of none", null("x"), with(none, one), zones, always)
	byFlag(t, "of none, of nulls", null("x"), with(one, none), zones, never)
}

func TestIn(t *testing.T) {
	z := texts("s", 4, 0, "b", "d")
	for _, c := range []struct {
		name string
		set  []string
		want int
	}{
		{"all below", []string{"", "a", "az"}, never}, {"all above", []string{"e", "f"}, never}, {"below and above", []string{"a", "e"}, never}, {"one within, first", []string{"b", "e", "f"}, maybe}, {"one within, last", []string{"", "a", "d"}, maybe}, {"one within, in the middle", []string{"a", "c", "e"}, maybe}, {"all within", []string{"b", "c", "d"}, maybe},
	} {
		byZone(t, c.name, in("s", c.set...), z, c.want)
	}
	one := texts("s", 4, 0, "c", "c")
	byZone(t, "always, first", in("s", "c", "d", "e"), one, always)
	byZone(t, "always, last", in("s", "a", "b", "c"), one, always)
	byZone(t, "always, in the middle", in("s", "a", "c", "e"), one, always)
	byZone(t, "always, alone", in("s", "c"), one, always)
	byZone(t, "never, about it", in("s", "a", "b", "d", "e"), one, never)
	byZone(t, "with a null", in("s", "a", "c", "e"), texts("s", 4, 1, "c", "c"), maybe)
	byZone(t, "the whole set, but two texts", in("s", "c", "d"), texts("s", 4, 0, "c", "d"), maybe)
	byZone(t, "nothing", in("s", "", "a"), texts("s", 4, 0, "", ""), always)
	for flags := range whole {
		judged(t, "In of none, of no column", in("z"), with(z), flags, never)
		judged(t, "In of none, of nulls", in("s"), with(texts("s", 4, 4, "", "")), flags, never)
		judged(t, "Not of In of none", not(in("s")), with(z), flags, always)
	}
}

func TestInByFilters(t *testing.T) {
	f := filter("s", "b", "d")
	absent(t, f.Filter, "a", "c", "e", "f")
	s := prune.Stats{Rows: 4, Blooms: []prune.Bloom{f}}
	asked(t, "one may be, first", in("s", "b", "c", "e"), s, blooms, maybe)
	asked(t, "one may be, last", in("s", "a", "c", "d"), s, blooms, maybe)
	asked(t, "one may be, in the middle", in("s", "a", "b", "c"), s, blooms, maybe)
	asked(t, "none may be", in("s", "a", "c", "e"), s, blooms, never)
	asked(t, "each may be", in("s", "b", "d"), s, blooms, maybe)
	asked(t, "without the flag", in("s", "a", "c", "e"), s, 0, maybe)
	asked(t, "of another column", in("t", "a", "c", "e"), s, blooms, maybe)
	// The zone has c, which the filter has not; the filter has d, which is beyond the zone: each text is asked both.
	s.Zones = []prune.Zone{texts("s", 4, 0, "b", "c")}
	asked(t, "never by each its own way", in("s", "c", "d"), s, zones|blooms, never)
	asked(t, "maybe by the zone", in("s", "c", "d"), s, zones, maybe)
	asked(t, "maybe by the filter", in("s", "c", "d"), s, blooms, maybe)
	asked(t, "maybe by both", in("s", "b", "c", "d"), s, zones|blooms, maybe)
	s.Zones = []prune.Zone{texts("s", 4, 0, "b", "b")}
	asked(t, "always by the zone", in("s", "a", "b", "c"), s, zones, always)
	asked(t, "always by the zone, maybe by the filter", in("s", "a", "b", "c"), s, zones|blooms, always)
	asked(t, "always by neither", in("s", "a", "b", "c"), s, blooms, maybe)
}

func TestFlagsTogether(t *testing.T) {
	s := plenty()
	p := every(between(10, 20), less("x", 10), is("u", "q"))
	for flags := range whole {
		want := maybe
		if flags&ticks != 0 && flags&zones != 0 {
			want = always
		}
		asked(t, "what asks ticks and zones", p, s, flags, want)
		want = maybe
		if flags&ticks != 0 || flags&zones != 0 {
			want = never
		}
		asked(t, "what one of ticks and zones tells", every(between(21, 30), less("x", 5)), s, flags, want)
		want = maybe
		if flags&ticks != 0 && flags&(zones|blooms) != 0 {
			want = never
		}
		asked(t, "what asks ticks, and zones or filters", some(between(21, 30), is("s", "zzz")), s, flags, want)
	}
}

func TestWhatPlentyTells(t *testing.T) {
	for _, c := range []struct {
		p    api.Pred
		want int
	}{
		{less("y", 8), maybe}, {less("y", 7), never}, {less("s", 8), never}, {less("n", 8), never}, {less("z", 8), never}, {equal("o", 7), always}, {equal("y", 7), maybe},
		{is("s", "ab"), maybe}, {is("u", "q"), always}, {is("t", "q"), maybe}, {is("x", "a"), never}, {prefix("s", "a"), always}, {prefix("s", "ab"), maybe}, {prefix("s", "acz"), never}, {prefix("t", "q"), maybe}, {prefix("t", "r"), never},
		{in("u", "a", "q"), always}, {in("s", "x", "z"), never}, {not(between(10, 20)), never},
		{every(equal("o", 7), less("x", 10), is("u", "q"), null("z")), always}, {every(equal("o", 7), less("x", 10), is("t", "q")), maybe}, {some(less("x", 5), null("x"), is("s", "zz")), never}, {some(less("x", 5), prefix("s", "ab"), null("x")), maybe}, {some(less("x", 5), prefix("s", "ab"), null("z")), always},
	} {
		judged(t, "plenty", c.p, plenty(), whole-1, c.want)
	}
}

// event answers a row of that time with cells of the columns that each of them may lack.
func event(r *rand.Rand, time int64, seq int) api.Row {
	out := api.Row{Time: time, Seq: seq}
	for _, col := range []string{"s", "t", "x", "y"} {
		switch {
		case r.Intn(4) == 0:
		case col < "u":
			out.Cells = append(out.Cells, api.Cell{Col: col, Kind: api.Text, S: pick(r, words()...)})
		default:
			out.Cells = append(out.Cells, api.Cell{Col: col, Kind: api.Int, N: r.Int63n(6) - 2})
		}
	}
	return out
}

func words() []string {
	return []string{"", "a", "a\x00", "ab", "abc", "b", "ba", "\xff", "\xff\xff"}
}

func pick[T any](r *rand.Rand, l ...T) T {
	return l[r.Intn(len(l))]
}

// statsOf answers what is to be known of l's rows.
func statsOf(l []api.Row) prune.Stats {
	s := prune.Stats{Rows: len(l), Lo: last, Hi: first}
	for _, x := range l {
		s.Lo, s.Hi = min(s.Lo, x.Time), max(s.Hi, x.Time)
	}
	for _, col := range []string{"s", "t", "x", "y"} {
		kind := api.Int
		if col < "u" {
			kind = api.Text
		}
		var cells []api.Cell
		var strs []string
		for _, x := range l {
			c := row.Cell(x, col)
			cells = append(cells, c)
			if c.Kind == api.Text {
				strs = append(strs, c.S)
			}
		}
		z := zone.Build(kind, cells)
		if z.Rows > z.Nulls { // "of each column that some have"
			s.Zones = append(s.Zones, prune.Zone{Col: col, Zone: z})
			if kind == api.Text {
				s.Blooms = append(s.Blooms, filter(col, strs...))
			}
		}
	}
	return s
}

func someSet(r *rand.Rand) []string {
	var out []string
	for _, s := range words() {
		if len(out) < api.MaxSet && r.Intn(4) == 0 {
			out = append(out, s)
		}
	}
	slices.Sort(out)
	return out
}

func leaf(r *rand.Rand) api.Pred {
	col := pick(r, "s", "s", "t", "x", "x", "y", "z")
	switch r.Intn(7) {
	case 0:
		return less(col, r.Int63n(9)-4)
	case 1:
		return equal(col, r.Int63n(8)-3)
	case 2:
		return is(col, pick(r, words()...))
	case 3:
		return in(col, someSet(r)...)
	case 4:
		return prefix(col, pick(r, words()...))
	case 5:
		return null(col)
	}
	return between(r.Int63n(16)-2, r.Int63n(16)-2)
}

// anyOne answers a predicate that is no deeper than deep.
func anyOne(r *rand.Rand, deep int) api.Pred {
	if deep == 1 || r.Intn(3) == 0 {
		return leaf(r)
	}
	p := api.Pred{Kind: pick(r, api.All, api.Any, api.Not)}
	n := r.Intn(4)
	if p.Kind == api.Not {
		n = 1
	}
	for range n {
		p.Kids = append(p.Kids, anyOne(r, deep-1))
	}
	return p
}

func someRows(r *rand.Rand) []api.Row {
	var l []api.Row
	start := r.Int63n(8)
	for i := range 1 + r.Intn(5) {
		l = append(l, event(r, start+r.Int63n(5), i))
	}
	return l
}

// truth answers how many of l's rows p is true of.
func truth(p api.Pred, l []api.Row) int {
	n := 0
	for _, x := range l {
		if pred.Eval(p, x) {
			n++
		}
	}
	return n
}

func holdsFor(t *testing.T, p api.Pred, l []api.Row, s prune.Stats, flags int) int {
	t.Helper()
	got, n := prune.Judge(p, s, flags), truth(p, l)
	if got == never && n > 0 || got == always && n < len(l) {
		t.Fatalf("P14.2: %v by %d is %d, and true of %d of %v", p, flags, got, n, l)
	}
	if want := otherJudge(p, s, flags); got != want {
		t.Fatalf("P14.1: %v of %v by %d: %d, want %d", p, s, flags, got, want)
	}
	return got
}

func TestWhatIsJudgedIsTrue(t *testing.T) {
	r := rand.New(rand.NewSource(14))
	count := [4]int{}
	for i := range 20000 {
		l := someRows(r)
		s := statsOf(l)
		p := anyOne(r, 1+i%api.MaxDeep)
		if !pred.Right(p) {
			continue
		}
		var by [whole]int
		for flags := range whole {
			by[flags] = holdsFor(t, p, l, s, flags)
			count[by[flags]]++
			// What some flags tell, more of them don't take back.
			for _, flag := range []int{zones, blooms, ticks, api.UseDicts} {
				if less := flags &^ flag; by[less] != maybe && by[less] != by[flags] {
					t.Fatalf("P14.2: %v of %v: %d by %d, %d by %d", p, s, by[less], less, by[flags], flags)
				}
			}
		}
		if i%10 == 0 {
			judged(t, "rows of all kinds", p, s, i/10%whole, by[i/10%whole])
		}
	}
	if min(count[never], count[maybe], count[always]) < 10000 {
		t.Errorf("only %v", count)
	}
}

// Each leaf, of each of the two sorts of columns, about each list of three values, with nulls and without.
func TestLeavesAreTrueOfAllLists(t *testing.T) {
	vals := []string{"", "a", "ab", "b", "\xff"}
	cell := func(kind, i int) []api.Cell {
		switch {
		case i == len(vals):
			return nil
		case kind == api.Int:
			return []api.Cell{{Col: "c", Kind: api.Int, N: int64(i)}}
		}
		return []api.Cell{{Col: "c", Kind: api.Text, S: vals[i]}}
	}
	var asks []api.Pred
	for i, s := range append(slices.Clone(vals), "aa", "abc", "c", "\xff\x00") {
		asks = append(asks, less("c", int64(i)-1), equal("c", int64(i)-1), is("c", s), prefix("c", s), in("c", s))
	}
	asks = append(asks, null("c"), in("c", "", "a"), in("c", "a", "b"), in("c", "", "a", "ab", "b"), in("c"), less("c", last), less("c", first))
	for kind := api.Int; kind <= api.Text; kind++ {
		most := len(vals) + 1
		for n := range most * most * most {
			var l []api.Row
			var cells []api.Cell
			var strs []string
			for _, i := range []int{n % most, n / most % most, n / most / most} {
				x := api.Row{Cells: cell(kind, i)}
				l, cells = append(l, x), append(cells, row.Cell(x, "c"))
				if c := row.Cell(x, "c"); c.Kind == api.Text {
					strs = append(strs, c.S)
				}
			}
			s := prune.Stats{Rows: 3, Zones: []prune.Zone{{Col: "c", Zone: zone.Build(kind, cells)}}, Blooms: []prune.Bloom{filter("c", strs...)}}
			for _, p := range asks {
				for flags := range whole {
					holdsFor(t, p, l, s, flags)
					holdsFor(t, not(p), l, s, flags)
				}
			}
		}
	}
}

// Of three values or more a zone tells no more than Judge does: whatever is Maybe, is true of a row of one list with that zone, and false of a row of one.
func TestMaybeIsNotKnown(t *testing.T) {
	vals := []string{"", "a", "aa", "ab", "b", "\xff"}
	lists := map[zone.Zone][]api.Row{}
	for kind := api.Int; kind <= api.Text; kind++ {
		for n := range 2 * len(vals) * len(vals) * len(vals) {
			cells := make([]api.Cell, n%2) // none, or one null
			n /= 2
			for range 3 {
				c := api.Cell{Col: "c", Kind: kind}
				if kind == api.Int {
					c.N = int64(n % len(vals))
				} else {
					c.S = vals[n%len(vals)]
				}
				cells = append(cells, c)
				n /= len(vals)
			}
			z := zone.Build(kind, cells)
			for _, c := range cells {
				lists[z] = append(lists[z], api.Row{Cells: []api.Cell{c}})
			}
		}
	}
	for z, l := range lists {
		s := prune.Stats{Rows: z.Rows, Zones: []prune.Zone{{Col: "c", Zone: z}}}
		for i, x := range vals {
			for _, p := range []api.Pred{less("c", int64(i)), less("c", int64(i)+1), equal("c", int64(i)), is("c", x), prefix("c", x), null("c")} {
				want := maybe
				switch truth(p, l) {
				case 0:
					want = never
				case len(l):
					want = always
				}
				judged(t, "all lists of a zone", p, s, zones, want)
			}
		}
	}
}

// strange answers Stats of any sort, of which few can be told of rows.
func strange(r *rand.Rand) prune.Stats {
	s := prune.Stats{Rows: pick(r, 0, 1, 4, 4, 4, -1, math.MinInt, math.MaxInt), Lo: pick[int64](r, 0, 3, 7, first, last), Hi: pick[int64](r, 0, 5, 9, first, last)}
	for range r.Intn(5) {
		z := zone.Zone{Kind: pick(r, api.Int, api.Text, api.Int, api.Text, 0, 3, -1), Rows: pick(r, 4, 4, 0, -1, 9), Nulls: pick(r, 0, 0, 1, 4, 9, -1),
			MinN: pick[int64](r, -2, 0, 2, first, last), MaxN: pick[int64](r, -2, 0, 2, first, last), MinS: pick(r, words()...), MaxS: pick(r, words()...)}
		s.Zones = append(s.Zones, prune.Zone{Col: pick(r, "s", "t", "x", "y", "", "Z"), Zone: z})
	}
	for range r.Intn(5) {
		f := bloom.Build(someSet(r))
		switch r.Intn(4) {
		case 0:
			f.Bits = pick(r, 0, -1, 63, 65, 128, math.MinInt, math.MaxInt)
		case 1:
			f.B = f.B[:r.Intn(len(f.B)+1)]
		}
		s.Blooms = append(s.Blooms, prune.Bloom{Col: pick(r, "s", "t", "x", "", "Z"), Filter: f})
	}
	return s
}

// spoilt answers p with one part that is not as it should be, at some depth.
func spoilt(r *rand.Rand, p api.Pred) api.Pred {
	if len(p.Kids) > 0 && r.Intn(2) == 0 {
		p.Kids = slices.Clone(p.Kids)
		i := r.Intn(len(p.Kids))
		p.Kids[i] = spoilt(r, p.Kids[i])
		return p
	}
	switch r.Intn(6) {
	case 0:
		p.Kind = pick(r, 0, -1, 11, 99, math.MinInt)
	case 1:
		p.Kids = append(slices.Clone(p.Kids), leaf(r))
	case 2:
		p.Col = pick(r, "", "X", "abcdefghijklm")
	case 3:
		p.Set = append(slices.Clone(p.Set), "a", "a")
	case 4:
		p.Kids = nil
	case 5:
		p.S = strings.Repeat("a", r.Intn(50))
	}
	return p
}

func TestStatsOfEverySort(t *testing.T) {
	r := rand.New(rand.NewSource(41))
	count := [4]int{}
	for i := range 60000 {
		s, p := strange(r), anyOne(r, 1+i%(api.MaxDeep+1))
		if i%5 == 0 {
			p = spoilt(r, p)
		}
		flags := pick(r, r.Intn(whole), r.Intn(whole), int(r.Uint64()), -1, math.MinInt, math.MaxInt)
		want := otherJudge(p, s, flags)
		if got := prune.Judge(p, s, flags); got != want {
			t.Fatalf("P14.1: %v of %v by %d: %d, want %d", p, s, flags, got, want)
		}
		count[want]++
		if i%10 == 0 {
			judged(t, "Stats of any sort", p, s, flags, want)
		}
	}
	if min(count[never], count[maybe], count[always]) < 3000 {
		t.Errorf("only %v", count)
	}
}

// endless answers predicates whose lists of Kids hold themselves, and some that are as great as a predicate may be.
func endless() []api.Pred {
	var out []api.Pred
	for kind := api.All; kind <= api.Not; kind++ {
		for n := 1; n < 3; n++ {
			kids := make([]api.Pred, n)
			for i := range kids {
				kids[i] = api.Pred{Kind: kind, Kids: kids}
			}
			out = append(out, api.Pred{Kind: kind, Kids: kids})
		}
		out = append(out, under(kind, 49, every()), under(kind, 1000, every()), api.Pred{Kind: kind, Kids: times(4999, every())}, api.Pred{Kind: kind, Kids: times(50000, every())})
	}
	return out
}

func TestCallsEnd(t *testing.T) {
	for i, p := range endless() {
		for _, s := range []prune.Stats{{}, plenty(), {Rows: -1}} {
			for flags := range whole {
				if got := prune.Judge(p, s, flags); got != maybe {
					t.Errorf("P14.1: endless %d by %d: %d", i, flags, got)
				}
			}
		}
	}
}

func TestManyZones(t *testing.T) {
	s := with()
	for range 5000 {
		s.Zones = append(s.Zones, ints("a", 4, 0, 7, 7))
		s.Blooms = append(s.Blooms, filter("a"))
	}
	judged(t, "no zone of that Col among many", null("x"), s, zones, always)
	judged(t, "no filter of that Col among many", is("x", "b"), s, blooms, maybe)
	s.Zones = append(s.Zones, ints("x", 4, 0, 7, 7))
	s.Blooms = append(s.Blooms, filter("x", "a"))
	judged(t, "the last of many zones", equal("x", 7), s, zones, always)
	judged(t, "the last of many filters", is("x", "b"), s, blooms, never)
}

// What was judged once is not kept: the same call answers by what it is given then.
func TestNothingIsKept(t *testing.T) {
	p, s := every(in("s", "ab")), plenty()
	judged(t, "ahead", p, s, zones|blooms, maybe)
	p.Kids[0].Set[0] = "zz"
	judged(t, "another text", p, s, zones|blooms, never)
	p.Kids[0].Set[0] = "ab"
	s.Zones[2].Zone.MinS, s.Zones[2].Zone.MaxS = "ab", "ab"
	judged(t, "another zone", p, s, zones|blooms, always)
	clear(s.Blooms[0].Filter.B)
	judged(t, "another filter", p, s, zones|blooms, never)
	s.Blooms = nil
	judged(t, "no filter", p, s, zones|blooms, always)
}

func FuzzJudge(f *testing.F) {
	f.Add([]byte{4, 1, 'x', 10}, int64(5), int64(9), "a", "b", uint8(0), 7)
	f.Add([]byte{6, 1, 's', 1, 'a'}, int64(5), int64(9), "a", "a", uint8(1), 15)
	f.Add([]byte{3, 1, 2, 8, 1, 's', 1, 'a', 10, 2, 4}, int64(1), int64(0), "b", "a", uint8(4), 3)
	f.Fuzz(func(t *testing.T, b []byte, lo, hi int64, least, greatest string, nulls uint8, flags int) {
		p, _, _ := pred.Decode(b, 0)
		s := prune.Stats{Rows: 4, Lo: lo, Hi: hi, Zones: []prune.Zone{ints("x", 4, int(nulls), lo, hi), texts("s", 4, int(nulls), least, greatest)}, Blooms: []prune.Bloom{filter("s", least, greatest)}}
		judged(t, "any bytes", p, s, flags, otherJudge(p, s, flags))
	})
}

func ExampleJudge() {
	s := prune.Stats{Rows: 4, Lo: 10, Hi: 20,
		Zones:  []prune.Zone{{Col: "x", Zone: zone.Zone{Kind: api.Int, Rows: 4, MinN: 5, MaxN: 9}}},
		Blooms: []prune.Bloom{{Col: "s", Filter: bloom.Build([]string{"red", "blue"})}},
	}
	small := api.Pred{Kind: api.Less, Col: "x", N: 5}
	green := api.Pred{Kind: api.Is, Col: "s", S: "green"}
	then := api.Pred{Kind: api.Between, N: 0, M: 99}
	fmt.Println(prune.Judge(small, s, api.UseZones) == prune.Never)
	fmt.Println(prune.Judge(green, s, api.UseBlooms) == prune.Never)
	fmt.Println(prune.Judge(then, s, api.UseTicks) == prune.Always)
	fmt.Println(prune.Judge(then, s, api.UseZones|api.UseBlooms) == prune.Maybe)
	// Output:
	// true
	// true
	// true
	// true
}
