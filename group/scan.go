package group

import (
	"slices"

	"columbarium/api"
	"columbarium/dels"
	"columbarium/pred"
	"columbarium/prune"
)

// Scan answers the rows for which p holds, but for those that gone marks, of which the first row has the place from; and whether that was told without reading rows.
func (g *Group) Scan(p api.Pred, gone *dels.Marks, from, flags int) ([]api.Row, bool) {
	switch {
	case !pred.Right(p):
		return nil, false
	case prune.Judge(p, g.head.stats, flags) == prune.Never:
		return nil, true
	}
	var places []int
	for i, is := range g.where(p, flags&api.UseDicts != 0) {
		if is && !marks(gone, from+i) {
			places = append(places, i)
		}
	}
	return g.pick(places), false
}

// marks tells whether gone marks that place. What lies past the greatest int has become a place below 0, which is none.
func marks(gone *dels.Marks, place int) bool {
	return gone != nil && gone.Has(place)
}

// where tells of each row whether p, which is Right, holds for it. It reads the columns alone that p asks.
func (g *Group) where(p api.Pred, dicts bool) []bool {
	switch p.Kind {
	case api.All:
		return g.whereKids(p.Kids, true, dicts)
	case api.Any:
		return g.whereKids(p.Kids, false, dicts)
	case api.Not:
		out := g.where(p.Kids[0], dicts)
		for i, is := range out {
			out[i] = !is
		}
		return out
	case api.Between:
		return g.whereTimes(p)
	}
	return g.whereColumn(p, dicts)
}

// whereKids tells of each row whether all of kids are as so says; else it is the other.
func (g *Group) whereKids(kids []api.Pred, so, dicts bool) []bool {
	out := g.each(so)
	for _, k := range kids {
		// No row hangs on the other Kids: their columns need not be read.
		if !slices.Contains(out, so) {
			break
		}
		for i, is := range g.where(k, dicts) {
			if is != so {
				out[i] = is
			}
		}
	}
	return out
}

// each answers is for each row.
func (g *Group) each(is bool) []bool {
	return slices.Repeat([]bool{is}, g.Count())
}

func (g *Group) whereTimes(p api.Pred) []bool {
	out := g.each(false)
	for i, n := range g.keys.ask(readKeys).times {
		out[i] = pred.Eval(p, api.Row{Time: n})
	}
	return out
}

func (g *Group) whereColumn(p api.Pred, dicts bool) []bool {
	for i, z := range g.head.stats.Zones {
		if z.Col == p.Col {
			return g.column(i).Where(p, dicts)
		}
	}
	// No row has that column: p is as true of each as of a row without cells.
	return g.each(pred.Eval(p, api.Row{}))
}
