package group

import (
	"sync"

	"columbarium/api"
	"columbarium/bloom"
	"columbarium/chunk"
	"columbarium/delta"
	"columbarium/prune"
	"columbarium/ticks"
	"columbarium/varint"
	"columbarium/zone"
)

// head is what a group tells without reading its keys and columns.
type head struct {
	index ticks.Index
	stats prune.Stats
}

func newHead(x ticks.Index, zones []prune.Zone, blooms []prune.Bloom) head {
	return head{x, prune.Stats{Rows: x.Rows, Lo: x.At[0], Hi: x.Last, Zones: zones, Blooms: blooms}}
}

// headOf answers the head of l's rows, which need cols.
func headOf(l []api.Row, cols []api.Col) head {
	var zones []prune.Zone
	var blooms []prune.Bloom
	for _, c := range cols {
		cells := cellsOf(l, c.Name)
		zones = append(zones, prune.Zone{Col: c.Name, Zone: zone.Build(c.Kind, cells)})
		if c.Kind == api.Text {
			blooms = append(blooms, prune.Bloom{Col: c.Name, Filter: bloom.Build(textsOf(cells))})
		}
	}
	// Rows that rise have times that do: nothing is refused.
	x, _ := ticks.Build(keysOf(l).times)
	return newHead(x, zones, blooms)
}

func textsOf(l []api.Cell) []string {
	var out []string
	for _, c := range l {
		if c.Kind == api.Text {
			out = append(out, c.S)
		}
	}
	return out
}

// bytes answers the index, each column's name and zone, and the filters: those of the zones of Texts, so that they need no names.
func (h head) bytes() []byte {
	// All of it was built: nothing is refused.
	out, _ := ticks.Encode(h.index)
	out = varint.Put(out, uint64(len(h.stats.Zones)))
	for _, z := range h.stats.Zones {
		b, _ := zone.Encode(z.Zone)
		out = append(varint.PutText(out, z.Col), b...)
	}
	for _, f := range h.stats.Blooms {
		b, _ := bloom.Encode(f.Filter)
		out = append(out, b...)
	}
	return out
}

// readHead answers the head that b begins with, and whether there is one.
func readHead(b []byte) (head, bool) {
	r := reader{b: b}
	x := get(&r, ticks.Decode)
	n := get(&r, varint.Get)
	// Without rows there is no least time. A great count is not believed: each column takes memory.
	if x.Rows == 0 || n > api.MaxCols {
		return head{}, false
	}
	var zones []prune.Zone
	for range n {
		z := prune.Zone{Col: get(&r, getName)}
		z.Zone = get(&r, zone.Decode)
		zones = append(zones, z)
	}
	var blooms []prune.Bloom
	for _, z := range zones {
		if z.Zone.Kind == api.Text {
			blooms = append(blooms, prune.Bloom{Col: z.Col, Filter: get(&r, bloom.Decode)})
		}
	}
	if r.why != api.OK {
		return head{}, false
	}
	return newHead(x, zones, blooms), true
}

func getName(b []byte, at int) (string, int, api.Errno) {
	return varint.GetText(b, at, api.MaxName)
}

// keys are the Times and the Seqs of rows, by which these rise.
type keys struct {
	times, seqs []int64
}

func keysOf(l []api.Row) keys {
	var k keys
	for _, r := range l {
		k.times = append(k.times, r.Time)
		k.seqs = append(k.seqs, int64(r.Seq))
	}
	return k
}

func (k keys) bytes() []byte {
	return append(delta.Encode(k.times), delta.Encode(k.seqs)...)
}

// readKeys answers the keys that b begins with, or none.
func readKeys(b []byte) keys {
	r := reader{b: b}
	k := keys{times: get(&r, getNumbers)}
	k.seqs = get(&r, getNumbers)
	return k
}

func getNumbers(b []byte, at int) ([]int64, int, api.Errno) {
	return delta.Decode(b, at, api.Group)
}

// readColumn answers the column that b is, or nil.
func readColumn(b []byte) *chunk.Chunk {
	c, _ := chunk.Open(b)
	return c
}

// late is what bytes tell, which are read when it is first asked for.
type late[T any] struct {
	once  sync.Once
	bytes []byte // till they are read
	value T      // from then on
}

func (l *late[T]) ask(read func(b []byte) T) T {
	l.once.Do(func() {
		l.value = read(l.bytes)
		l.bytes = nil
	})
	return l.value
}

// reader reads what stands in b from at on. Behind its first refusal it reads nothing more: what it gets is zero then.
type reader struct {
	b   []byte
	at  int
	why api.Errno
}

// get answers what decode reads next.
func get[T any](r *reader, decode func(b []byte, at int) (T, int, api.Errno)) T {
	var out T
	if r.why == api.OK {
		out, r.at, r.why = decode(r.b, r.at)
	}
	return out
}
