package cover

import (
	"slices"

	"caduceus/api"
	"caduceus/filter"
	"caduceus/name"
	"caduceus/value"
)

// asked is a filter with its wants, which are asked often, and its place.
type asked struct {
	f     []api.Pred
	wants []api.Want
	place int
}

// allAsked are those of a list that are filters.
func allAsked(l [][]api.Pred) (all []asked) {
	for i, f := range l {
		if filter.Check(f) {
			all = append(all, asked{f: f, wants: Wants(f), place: i})
		}
	}
	return all
}

// yields tells whether the filter at a place goes, as the one at another place covers it: of two that cover each other the first one stays.
func yields(l []asked, at, other int) bool {
	return at != other && covers(l[other].f, l[at].wants) && (other < at || !covers(l[at].f, l[other].wants))
}

// Prune is the places of the filters that no other one covers.
func Prune(l [][]api.Pred) (places []int) {
	for _, a := range prune(allAsked(l)) {
		places = append(places, a.place)
	}
	return places
}

func prune(l []asked) (stay []asked) {
	for i := range l {
		if !yieldsToAny(l, i) {
			stay = append(stay, l[i])
		}
	}
	return stay
}

func yieldsToAny(l []asked, at int) bool {
	for other := range l {
		if yields(l, at, other) {
			return true
		}
	}
	return false
}

// pruneAround prunes filters of which none covers another one, but for the one at that place; and where that place is then.
func pruneAround(l []asked, at int) (stay []asked, place int) {
	stay = make([]asked, 0, len(l))
	for i := range l {
		if i == at {
			place = len(stay)
		}
		if i == at && !yieldsToAny(l, at) || i != at && !yields(l, i, at) {
			stay = append(stay, l[i])
		}
	}
	return stay, place
}

// Merge is a filter that lets by what one of two does.
func Merge(f, g []api.Pred) (m []api.Pred, is bool) {
	switch {
	case Covers(f, g):
		return copied(f), true
	case Covers(g, f):
		return copied(g), true
	case filter.Check(f) && filter.Check(g):
		return join(f, g)
	}
	return nil, false
}

// join merges filters of which none covers the other one.
func join(f, g []api.Pred) (m []api.Pred, is bool) {
	at, is := onlyOther(f, g)
	if !is {
		return nil, false
	}
	l, is := together(f[at], g[at])
	if !is {
		return nil, false
	}
	m = copied(f)
	m[at] = api.Pred{Name: f[at].Name, Op: api.OpIn, L: l}
	return m, true
}

// onlyOther is the one place where the predicates of two filters are not the same.
func onlyOther(f, g []api.Pred) (at int, is bool) {
	if len(f) != len(g) {
		return 0, false
	}
	for i := range f {
		if samePred(f[i], g[i]) {
			continue
		}
		if is {
			return 0, false
		}
		at, is = i, true
	}
	return at, is
}

func samePred(p, q api.Pred) bool {
	return p.Op == q.Op && slices.Equal(p.L, q.L) && name.Same(p.Name, q.Name)
}

// together are the values that one of two predicates asks for, if these name them, and there are not too many.
func together(p, q api.Pred) (l []api.Value, is bool) {
	if !namesValues(p.Op) || !namesValues(q.Op) || p.L[0].Kind != q.L[0].Kind || !name.Same(p.Name, q.Name) {
		return nil, false
	}
	// None of both filters covers the other one: each predicate has a value that the other one has not.
	if max(len(p.L), len(q.L)) >= api.MaxIn {
		return nil, false
	}
	l = slices.Concat(p.L, q.L)
	slices.SortFunc(l, value.Compare)
	l = slices.Compact(l)
	if len(l) > api.MaxIn {
		return nil, false
	}
	return l, true
}

func namesValues(op int) bool {
	return op == api.OpEq || op == api.OpIn
}

// Few are few filters that let by what one of the many does.
func Few(l [][]api.Pred) (few [][]api.Pred) {
	stay := prune(allAsked(l))
	// Those ahead of this place can be merged with the one that stands there, if at all.
	for at := 0; at < len(stay); {
		i, j, m, is := firstPair(stay, at)
		if !is {
			at++
			continue
		}
		stay[i] = asked{f: m, wants: Wants(m)}
		stay, at = pruneAround(slices.Delete(stay, j, j+1), i)
	}
	for _, a := range stay {
		few = append(few, copied(a.f))
	}
	return few
}

// firstPair is the first two filters, one of them at that place, that can be merged, and the merged one. They are pruned: none covers another one.
func firstPair(l []asked, at int) (i, j int, m []api.Pred, is bool) {
	for i = range at {
		if m, is = join(l[i].f, l[at].f); is {
			return i, at, m, true
		}
	}
	for j = at + 1; j < len(l); j++ {
		if m, is = join(l[at].f, l[j].f); is {
			return at, j, m, true
		}
	}
	return 0, 0, nil, false
}

// copied is a filter in memory of its own.
func copied(f []api.Pred) []api.Pred {
	out := slices.Clone(f)
	for i := range out {
		out[i].L = slices.Clone(out[i].L)
	}
	return out
}
