package chunk

import (
	"columbarium/api"
	"columbarium/bits"
	"columbarium/dict"
	"columbarium/runs"
	"columbarium/varint"
)

// column is what a column's bytes tell.
type column struct {
	form   uint64
	words  []api.Cell // the dictionary, or, where there is none, each row's own; the last one is a null
	places []int      // of each row, which of words it has
}

func (c *column) cell(i int) api.Cell { return c.words[c.places[i]] }

func (c *column) all() []api.Cell {
	out := make([]api.Cell, len(c.places))
	for i := range out {
		out[i] = c.cell(i)
	}
	return out
}

// read answers what b begins with. It refuses what can't be read, not all that Encode does not write.
func read(b []byte) (column, api.Errno) {
	r := reader{b: b}
	form := r.number()
	marks := r.runs(r.count(), markWidth)
	n := nought(marks)
	var words []api.Cell
	var places []int
	switch form {
	case numbers:
		words, places = r.ints(n), upTo(n)
	case listed:
		words = r.dict()
		places = r.places(n, len(words))
	case plain:
		words, places = r.texts(n), upTo(n)
	default:
		r.refuse(api.ErrForm)
	}
	if r.why != api.OK {
		return column{}, r.why
	}
	places = spread(marks, places, len(words))
	return column{form: form, words: append(words, api.Cell{}), places: places}, api.OK
}

// nought answers how many of marks are 0: so many cells are not null.
func nought(marks []uint64) int {
	n := 0
	for _, mark := range marks {
		if mark == 0 {
			n++
		}
	}
	return n
}

// upTo answers the n places from 0 on.
func upTo(n int) []int {
	out := make([]int, n)
	for i := range out {
		out[i] = i
	}
	return out
}

// spread answers for each mark of 0 the next one of places, for the others null.
func spread(marks []uint64, places []int, null int) []int {
	out := make([]int, len(marks))
	for i, mark := range marks {
		out[i] = null
		if mark == 0 {
			out[i], places = places[0], places[1:]
		}
	}
	return out
}

// reader reads what stands in b from at on. Behind its first refusal it reads nothing more: numbers are 0 then, texts and lists empty.
type reader struct {
	b   []byte
	at  int
	why api.Errno
}

func (r *reader) refuse(why api.Errno) {
	if r.why == api.OK {
		r.why = why
	}
}

func (r *reader) number() uint64 {
	if r.why != api.OK {
		return 0
	}
	var n uint64
	n, r.at, r.why = varint.Get(r.b, r.at)
	return n
}

// count reads how many cells there are. It is asked ahead of making it an int: an int bears not all numbers.
func (r *reader) count() int {
	n := r.number()
	if n > mostCells {
		r.refuse(api.ErrMany)
		return 0
	}
	return int(n)
}

func (r *reader) runs(n, width int) []uint64 {
	if r.why != api.OK {
		return nil
	}
	var l []uint64
	l, r.at, r.why = runs.Decode(r.b, r.at, n, width)
	return l
}

func (r *reader) ints(n int) []api.Cell {
	var out []api.Cell
	for len(out) < n && r.why == api.OK {
		out = append(out, api.Cell{Kind: api.Int, N: varint.Zag(r.number())})
	}
	return out
}

func (r *reader) texts(n int) []api.Cell {
	var out []api.Cell
	for len(out) < n && r.why == api.OK {
		var s string
		s, r.at, r.why = varint.GetText(r.b, r.at, api.MaxText)
		out = append(out, api.Cell{Kind: api.Text, S: s})
	}
	return out
}

func (r *reader) dict() []api.Cell {
	if r.why != api.OK {
		return nil
	}
	var d []string
	d, r.at, r.why = dict.Decode(r.b, r.at)
	var out []api.Cell
	for _, s := range d {
		out = append(out, api.Cell{Kind: api.Text, S: s})
	}
	return out
}

// places reads n places in a dictionary of so many words.
func (r *reader) places(n, words int) []int {
	// Encode writes no dictionary with a text that no cell has: the last one's place is the greatest.
	width := bits.Width([]uint64{uint64(max(words-1, 0))})
	l := r.runs(n, width)
	out := make([]int, len(l))
	for i, place := range l {
		if place >= uint64(words) {
			r.refuse(api.ErrForm)
			return nil
		}
		out[i] = int(place)
	}
	return out
}
