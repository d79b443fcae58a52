package store

import (
	"math"
	"math/rand"
	"slices"
	"strconv"
	"strings"
	"testing"

	"caduceus/api"
	"caduceus/forest"
	"caduceus/name"
)

func id(node, life, seq int) api.ID { return api.ID{Node: node, Life: life, Seq: seq} }

func field(s string) api.Field { return api.Field{Name: s, Kind: api.KindInt} }

// root is a type that is below no other one, with a field.
func root(t *testing.T, s string, by api.ID) api.Type {
	t.Helper()
	x, e := forest.Root(s, []api.Field{field("a")}, by)
	if e != api.OK {
		t.Fatalf("Root(%q, %v): %v", s, by, e)
	}
	return x
}

// below is a type below another one, which need not be kept.
func below(t *testing.T, of api.Type, s string, by api.ID) api.Type {
	t.Helper()
	x, e := forest.Below(of, s, []api.Field{field("b"), field("c")}, by)
	if e != api.OK {
		t.Fatalf("Below(%q, %v): %v", s, by, e)
	}
	return x
}

func copied(t api.Type) api.Type {
	t.Own, t.All, t.Chain = slices.Clone(t.Own), slices.Clone(t.All), slices.Clone(t.Chain)
	return t
}

// spoil writes over all memory of a type.
func spoil(t api.Type) {
	clear(t.Own)
	clear(t.All)
	clear(t.Chain)
}

func isZero(t api.Type) bool {
	return forest.Same(t, api.Type{})
}

// wrongTypes: what may not be, but for one thing each.
func wrongTypes(t *testing.T) []api.Type {
	good := below(t, root(t, "News", id(1, 1, 1)), "News.Sport", id(1, 1, 2))
	spoilt := []func(x *api.Type){
		func(x *api.Type) { *x = api.Type{} },
		func(x *api.Type) { x.Name = "Golf" },
		func(x *api.Type) { x.Name, x.Chain[0] = "", "" },
		func(x *api.Type) { x.Name, x.Chain[0] = "a b", "a b" },
		func(x *api.Type) { x.Parent = "" },
		func(x *api.Type) { x.Chain = nil },
		func(x *api.Type) { x.Chain = x.Chain[:1] },
		func(x *api.Type) { x.Chain = append(x.Chain, "NEWS") },
		func(x *api.Type) { x.Chain = append(x.Chain, "b", "c", "d", "e", "f", "g", "h") },
		func(x *api.Type) { x.Own[0].Kind = 0 },
		func(x *api.Type) { x.All = x.All[:1] },
		func(x *api.Type) { slices.Reverse(x.All) },
		func(x *api.Type) { x.By = api.ID{} },
		func(x *api.Type) { x.By.Node = 16 },
		func(x *api.Type) { x.By.Life = 0 },
		func(x *api.Type) { x.By.Seq = api.MaxCount + 1 },
	}
	var out []api.Type
	for i, f := range spoilt {
		x := copied(good)
		if f(&x); forest.Check(x) {
			t.Fatalf("%d may be: %v", i, x)
		}
		out = append(out, x)
	}
	return out
}

// plain is a store as the chapter's words tell it: types in the order in which they came.
type plain struct {
	l []api.Kept
}

func (m *plain) find(n string) *api.Kept {
	for i := range m.l {
		if name.Fold(m.l[i].T.Name) == name.Fold(n) {
			return &m.l[i]
		}
	}
	return nil
}

func (m *plain) put(t api.Type) (api.Type, api.Errno) {
	if !forest.Check(t) {
		return api.Type{}, api.ErrArg
	}
	k := m.find(t.Name)
	switch {
	case k == nil && len(m.l) >= 200:
		return api.Type{}, api.ErrFull
	case k == nil:
		m.l = append(m.l, api.Kept{T: copied(t)})
		return t, api.OK
	case forest.Order(t.By, k.T.By) < 0:
		*k = api.Kept{T: copied(t)}
	}
	return k.T, api.OK
}

func (m *plain) set(t api.Type) api.Errno {
	if !forest.Check(t) {
		return api.ErrArg
	}
	k := m.find(t.Name)
	switch {
	case k == nil && len(m.l) >= 200:
		return api.ErrFull
	case k == nil:
		m.l = append(m.l, api.Kept{T: copied(t)})
	case !forest.Same(k.T, t):
		*k = api.Kept{T: copied(t)}
	}
	return api.OK
}

func (m *plain) begin(n string, nodes []int) (bool, api.Errno) {
	for i, node := range nodes {
		if node < 1 || node > 15 || i > 0 && nodes[i-1] >= node {
			return false, api.ErrArg
		}
	}
	k := m.find(n)
	if k == nil {
		return false, api.ErrNone
	}
	k.Wait, k.Sure = slices.Clone(nodes), len(nodes) == 0
	return k.Sure, api.OK
}

func (m *plain) stored(n string, by api.ID, node int) (bool, api.Errno) {
	k := m.find(n)
	if k == nil || k.T.By != by || !slices.Contains(k.Wait, node) {
		return false, api.ErrNone
	}
	k.Wait = slices.DeleteFunc(k.Wait, func(n int) bool { return n == node })
	k.Sure = len(k.Wait) == 0
	return k.Sure, api.OK
}

func (m *plain) loosen() {
	for i := range m.l {
		m.l[i] = api.Kept{T: m.l[i].T}
	}
}

func (m *plain) all() (out []api.Type) {
	for _, k := range m.l {
		out = append(out, k.T)
	}
	slices.SortFunc(out, func(a, b api.Type) int { return name.Compare(a.Name, b.Name) })
	return out
}

func (m *plain) waits() (count int) {
	for _, k := range m.l {
		if len(k.Wait) > 0 {
			count++
		}
	}
	return count
}

func sameKept(a, b api.Kept) bool {
	return forest.Same(a.T, b.T) && a.Sure == b.Sure && slices.Equal(a.Wait, b.Wait)
}

// puts puts into both, and tells whether they answer the same.
func puts(t *testing.T, s *Store, m *plain, x api.Type) (api.Type, api.Errno) {
	t.Helper()
	before := copied(x)
	got, e := s.Put(x)
	want, wantE := m.put(x)
	if e != wantE || !forest.Same(got, want) || !forest.Same(before, x) {
		t.Fatalf("Put(%v): %v, %v; not %v, %v", before, got, e, want, wantE)
	}
	return got, e
}

func sets(t *testing.T, s *Store, m *plain, x api.Type) api.Errno {
	t.Helper()
	before := copied(x)
	e, want := s.Set(x), m.set(x)
	if e != want || !forest.Same(before, x) {
		t.Fatalf("Set(%v): %v, not %v", before, e, want)
	}
	return e
}

func begins(t *testing.T, s *Store, m *plain, n string, nodes ...int) (bool, api.Errno) {
	t.Helper()
	before := slices.Clone(nodes)
	sure, e := s.Begin(n, nodes)
	if want, wantE := m.begin(n, nodes); sure != want || e != wantE || !slices.Equal(before, nodes) {
		t.Fatalf("Begin(%q, %v): %v, %v; not %v, %v", n, before, sure, e, want, wantE)
	}
	return sure, e
}

func stores(t *testing.T, s *Store, m *plain, n string, by api.ID, node int) (bool, api.Errno) {
	t.Helper()
	sure, e := s.Stored(n, by, node)
	if want, wantE := m.stored(n, by, node); sure != want || e != wantE {
		t.Fatalf("Stored(%q, %v, %d): %v, %v; not %v, %v", n, by, node, sure, e, want, wantE)
	}
	return sure, e
}

// agrees tells what a store answers otherwise than the list.
func agrees(t *testing.T, s *Store, m *plain) {
	t.Helper()
	all := s.All()
	if !slices.EqualFunc(all, m.all(), forest.Same) {
		t.Fatalf("All: %v, not %v", all, m.all())
	}
	if got, want := s.Waits(), m.waits(); got != want {
		t.Fatalf("Waits: %d, not %d", got, want)
	}
	for _, want := range m.l {
		for _, n := range []string{want.T.Name, strings.ToUpper(want.T.Name), name.Fold(want.T.Name)} {
			if got, is := s.Find(n); !is || !sameKept(got, want) {
				t.Fatalf("Find(%q): %v, %v; not %v", n, got, is, want)
			}
		}
	}
	for _, n := range []string{"", "1", "nobody", "\xff", "a..b", "News."} {
		if got, is := s.Find(n); is || !sameKept(got, api.Kept{}) {
			t.Fatalf("Find(%q): %v, %v", n, got, is)
		}
	}
}

// Promise 17.1: New.
func TestNew(t *testing.T) {
	s := New()
	agrees(t, s, &plain{})
	if s.All() != nil || s.Waits() != 0 {
		t.Errorf("an empty store has something")
	}
	s.Loosen()
	other := New()
	if other.Put(root(t, "News", id(1, 1, 1))); len(s.All()) != 0 {
		t.Errorf("two stores are one")
	}
}

// Promise 17.1: what may not be is refused, and changes nothing.
func TestWrongTypes(t *testing.T) {
	s, m := New(), &plain{}
	sport := below(t, root(t, "News", id(1, 1, 1)), "News.Sport", id(9, 9, 9))
	for range 2 {
		for i, x := range wrongTypes(t) {
			if got, e := puts(t, s, m, x); e != api.ErrArg || !isZero(got) {
				t.Errorf("%d: Put: %v, %v", i, got, e)
			}
			if e := sets(t, s, m, x); e != api.ErrArg {
				t.Errorf("%d: Set: %v", i, e)
			}
		}
		agrees(t, s, m)
		puts(t, s, m, sport)
		begins(t, s, m, "news.sport", 3)
	}
}

// Promise 17.1: of one name the type whose By stands ahead takes the place, not sure and waiting for nobody.
func TestPut(t *testing.T) {
	ways := map[string]func(s *Store, m *plain){
		"nothing": func(s *Store, m *plain) {},
		"sure":    func(s *Store, m *plain) { begins(t, s, m, "news") },
		"waiting": func(s *Store, m *plain) { begins(t, s, m, "news", 1, 15) },
	}
	kept := id(5, 5, 5)
	for way, do := range ways {
		for _, by := range []api.ID{kept, id(5, 5, 4), id(5, 5, 6), id(5, 4, 9), id(5, 6, 1), id(4, 9, 9), id(6, 1, 1), id(1, 1, 1), id(15, api.MaxCount, api.MaxCount)} {
			s, m := New(), &plain{}
			puts(t, s, m, root(t, "News", kept))
			do(s, m)
			before, _ := s.Find("News")
			other := below(t, root(t, "z", id(1, 1, 1)), "NEWS", by)
			got, e := puts(t, s, m, other)
			agrees(t, s, m)
			after, _ := s.Find("News")
			switch earlier := forest.Order(by, kept) < 0; {
			case e != api.OK:
				t.Errorf("%s, %v: %v", way, by, e)
			case earlier && (!forest.Same(got, other) || !sameKept(after, api.Kept{T: other})):
				t.Errorf("%s, %v takes no place: %v, %v", way, by, got, after)
			case !earlier && (!forest.Same(got, before.T) || !sameKept(after, before)):
				t.Errorf("%s, %v takes a place: %v, %v", way, by, got, after)
			}
		}
	}
}

// Promise 17.1: what is set is kept, whatever was kept; just the same stays as it is.
func TestSet(t *testing.T) {
	s, m := New(), &plain{}
	news := root(t, "News", id(5, 5, 5))
	sets(t, s, m, news)
	if k, is := s.Find("news"); !is || k.Sure || k.Wait != nil {
		t.Fatalf("a new one: %v, %v", k, is)
	}
	sets(t, s, m, below(t, root(t, "z", id(1, 1, 1)), "a", id(1, 1, 2)))
	begins(t, s, m, "a", 7)
	fields, chain, parent := copied(news), copied(news), below(t, root(t, "z", id(1, 1, 1)), "News", news.By)
	fields.Own[0].Must, fields.All[0].Must = true, true
	chain.Name, chain.Chain[0] = "NEWS", "NEWS"
	upper := below(t, root(t, "Z", id(1, 1, 1)), "News", news.By)
	for i, x := range []api.Type{fields, chain, parent, upper, root(t, "News", id(5, 5, 4)), root(t, "News", id(5, 5, 6)), root(t, "news", id(15, 1, 1)), news} {
		for _, nodes := range [][]int{nil, {1, 2, 15}, {4}} {
			old, _ := s.Find("News")
			begins(t, s, m, "News", nodes...)
			if e := sets(t, s, m, old.T); e != api.OK {
				t.Fatalf("%d: Set of the same: %v", i, e)
			}
			if k, _ := s.Find("NEWS"); k.Sure != (len(nodes) == 0) || !slices.Equal(k.Wait, nodes) {
				t.Fatalf("%d: Set of the same: %v", i, k)
			}
			sets(t, s, m, x)
			agrees(t, s, m)
			if k, _ := s.Find("news"); !forest.Same(old.T, x) && !sameKept(k, api.Kept{T: x}) {
				t.Fatalf("%d: Set of another one: %v", i, k)
			}
			sets(t, s, m, old.T)
		}
		sets(t, s, m, x)
	}
	agrees(t, s, m)
}

// Promise 17.1: there are at most api.MaxTypes, and which error comes ahead then.
func TestFull(t *testing.T) {
	s, m := New(), &plain{}
	for i := range api.MaxTypes {
		x := root(t, "t"+strconv.Itoa(i), id(5, 1, i+1))
		e := api.OK
		if i%2 == 0 {
			_, e = puts(t, s, m, x)
		} else {
			e = sets(t, s, m, x)
		}
		if e != api.OK {
			t.Fatalf("%d: %v", i, e)
		}
	}
	more := root(t, "more", id(1, 1, 1))
	if x, e := puts(t, s, m, more); e != api.ErrFull || !isZero(x) || sets(t, s, m, more) != api.ErrFull {
		t.Errorf("one more: %v, %v", x, e)
	}
	wrong := wrongTypes(t)[0]
	if _, e := puts(t, s, m, wrong); e != api.ErrArg || sets(t, s, m, wrong) != api.ErrArg {
		t.Errorf("one that may not be: %v", e)
	}
	if x, e := puts(t, s, m, root(t, "T7", id(1, 1, 1))); e != api.OK || x.Name != "T7" {
		t.Errorf("an earlier one of a name that is kept: %v, %v", x, e)
	}
	if x, e := puts(t, s, m, root(t, "t7", id(9, 1, 1))); e != api.OK || x.Name != "T7" {
		t.Errorf("a later one of a name that is kept: %v, %v", x, e)
	}
	if e := sets(t, s, m, root(t, "T8", id(9, 1, 1))); e != api.OK {
		t.Errorf("Set of a name that is kept: %v", e)
	}
	if sure, e := begins(t, s, m, "more"); sure || e != api.ErrNone {
		t.Errorf("one that had no room: %v, %v", sure, e)
	}
	agrees(t, s, m)
}

// Promise 17.2: Begin.
func TestBegin(t *testing.T) {
	s, m := New(), &plain{}
	puts(t, s, m, root(t, "News", id(1, 1, 1)))
	puts(t, s, m, root(t, "Golf", id(1, 1, 2)))
	every := []int{1, 2, 3, 4, 5, 6, 7, 8, 9, 10, 11, 12, 13, 14, 15}
	for _, nodes := range [][]int{{2}, nil, {1, 15}, {3, 4}, {}, every, {15}, {1}} {
		if sure, e := begins(t, s, m, "NEWS", nodes...); e != api.OK || sure != (len(nodes) == 0) {
			t.Errorf("Begin(%v): %v, %v", nodes, sure, e)
		}
		if k, _ := s.Find("news"); k.Sure != (len(nodes) == 0) || !slices.Equal(k.Wait, nodes) {
			t.Errorf("Begin(%v): %v", nodes, k)
		}
		if k, _ := s.Find("golf"); k.Sure || k.Wait != nil {
			t.Errorf("Begin of another one: %v", k)
		}
		agrees(t, s, m)
	}
	for _, n := range []string{"News", "nobody", ""} {
		for _, nodes := range [][]int{{0}, {-1}, {16}, {2, 1}, {1, 1}, {1, 2, 2}, {1, 16}, {0, 1}, {math.MaxInt}, {math.MinInt, 1}, append(every, 16), append(every, 15)} {
			if sure, e := begins(t, s, m, n, nodes...); sure || e != api.ErrArg {
				t.Errorf("Begin(%q, %v): %v, %v", n, nodes, sure, e)
			}
		}
		agrees(t, s, m)
	}
	for _, n := range []string{"nobody", "", "1", "\xff", "News.Sport", "New"} {
		for _, nodes := range [][]int{nil, {1, 2}} {
			if sure, e := begins(t, s, m, n, nodes...); sure || e != api.ErrNone {
				t.Errorf("Begin(%q): %v, %v", n, sure, e)
			}
		}
	}
	agrees(t, s, m)
}

// Promise 17.2: Stored.
func TestStored(t *testing.T) {
	s, m := New(), &plain{}
	by := id(2, 3, 4)
	puts(t, s, m, root(t, "News", by))
	puts(t, s, m, root(t, "Golf", by))
	begins(t, s, m, "golf", 1, 3, 15)
	for i, x := range []struct {
		n     string
		by    api.ID
		node  int
		nodes []int // what it is let wait for first, if there are any
		sure  bool
		e     api.Errno
	}{
		{"News", by, 1, nil, false, api.ErrNone}, {"nobody", by, 1, nil, false, api.ErrNone}, {"", by, 1, nil, false, api.ErrNone}, {"\xff", by, 1, nil, false, api.ErrNone},
		{"news", by, 1, []int{1, 3, 15}, false, api.OK}, {"news", by, 1, nil, false, api.ErrNone}, {"NEWS", by, 2, nil, false, api.ErrNone},
		{"News", id(2, 3, 5), 3, nil, false, api.ErrNone}, {"News", id(2, 2, 4), 3, nil, false, api.ErrNone}, {"News", id(1, 3, 4), 3, nil, false, api.ErrNone}, {"News", api.ID{}, 3, nil, false, api.ErrNone},
		{"News", by, 0, nil, false, api.ErrNone}, {"News", by, -1, nil, false, api.ErrNone}, {"News", by, 16, nil, false, api.ErrNone}, {"News", by, math.MaxInt, nil, false, api.ErrNone}, {"News", by, math.MinInt, nil, false, api.ErrNone},
		{"News", by, 15, nil, false, api.OK}, {"News", by, 3, nil, true, api.OK}, {"News", by, 3, nil, false, api.ErrNone}, {"News", by, 15, nil, false, api.ErrNone},
		{"News", by, 3, []int{3}, true, api.OK}, {"Golf", by, 3, nil, false, api.OK},
	} {
		if len(x.nodes) > 0 {
			begins(t, s, m, x.n, x.nodes...)
		}
		if sure, e := stores(t, s, m, x.n, x.by, x.node); sure != x.sure || e != x.e {
			t.Errorf("%d: Stored(%q, %v, %d): %v, %v", i, x.n, x.by, x.node, sure, e)
		}
		agrees(t, s, m)
	}
	if k, _ := s.Find("news"); !k.Sure {
		t.Errorf("what all have stored is not sure: %v", k)
	}
}

// Promise 17.3: All by names that rise, and Find of a name written otherwise.
func TestAll(t *testing.T) {
	s, m := New(), &plain{}
	var want []string
	for i, n := range []string{"z", "Émile", "b.a", "B", "ba", "b-a", "_x", "中", "Ж"} {
		puts(t, s, m, root(t, n, id(1, 1, i+1)))
	}
	for _, x := range s.All() {
		want = append(want, x.Name)
	}
	if !slices.Equal(want, []string{"_x", "B", "b-a", "b.a", "ba", "z", "Émile", "Ж", "中"}) {
		t.Errorf("All: %q", want)
	}
	if k, is := s.Find("ÉMILE"); !is || k.T.Name != "Émile" {
		t.Errorf("Find: %v, %v", k, is)
	}
	agrees(t, s, m)
}

// Promise 17.3: Loosen and Waits.
func TestLoosen(t *testing.T) {
	s, m := New(), &plain{}
	for i, n := range []string{"a", "b", "c", "d", "e"} {
		puts(t, s, m, root(t, n, id(1, 1, i+1)))
	}
	begins(t, s, m, "a")
	begins(t, s, m, "b", 1)
	begins(t, s, m, "c", 2, 15)
	begins(t, s, m, "d", 3)
	stores(t, s, m, "d", id(1, 1, 4), 3)
	if s.Waits() != 2 {
		t.Errorf("Waits: %d", s.Waits())
	}
	agrees(t, s, m)
	s.Loosen()
	m.loosen()
	agrees(t, s, m)
	for i, n := range []string{"a", "b", "c", "d", "e"} {
		if k, is := s.Find(n); !is || k.Sure || k.Wait != nil || s.Waits() != 0 {
			t.Errorf("behind Loosen: %v, %v", k, is)
		}
		for node := range 17 {
			if sure, e := stores(t, s, m, n, id(1, 1, i+1), node); sure || e != api.ErrNone {
				t.Errorf("behind Loosen, Stored(%q, %d): %v, %v", n, node, sure, e)
			}
		}
	}
	if sure, e := begins(t, s, m, "b"); !sure || e != api.OK {
		t.Errorf("Begin: %v, %v", sure, e)
	}
	agrees(t, s, m)
}

// Promise 17.3: a nil store.
func TestNil(t *testing.T) {
	var s *Store
	for _, x := range append(wrongTypes(t), root(t, "News", id(1, 1, 1))) {
		if got, e := s.Put(x); e != api.ErrArg || !isZero(got) || s.Set(x) != api.ErrArg {
			t.Errorf("Put: %v, %v", got, e)
		}
	}
	if k, is := s.Find("News"); is || !sameKept(k, api.Kept{}) || s.All() != nil || s.Waits() != 0 {
		t.Errorf("Find: %v, %v", k, is)
	}
	for _, nodes := range [][]int{nil, {1}, {2, 1}} {
		if sure, e := s.Begin("News", nodes); sure || e != api.ErrArg {
			t.Errorf("Begin: %v, %v", sure, e)
		}
	}
	for _, node := range []int{0, 1, 16} {
		if sure, e := s.Stored("News", id(1, 1, 1), node); sure || e != api.ErrArg {
			t.Errorf("Stored: %v, %v", sure, e)
		}
	}
	s.Loosen()
}

// someTypes: of few names, made by few.
func someTypes(t *testing.T) (out []api.Type) {
	top := root(t, "Top", id(1, 1, 1))
	for _, n := range []string{"News", "NEWS", "a", "b.c", "B.C", "Émile", "éMILE"} {
		for _, by := range []api.ID{id(1, 1, 1), id(1, 2, 1), id(1, 2, 9), id(2, 1, 1), id(15, 7, 7)} {
			out = append(out, root(t, n, by), below(t, top, n, by))
		}
	}
	return append(out, wrongTypes(t)...)
}

// someNodes: mostly few that rise.
func someNodes(r *rand.Rand) (nodes []int) {
	for node := range 17 {
		if r.Intn(8) == 0 {
			nodes = append(nodes, node)
		}
	}
	return nodes
}

// Promises 17.1 to 17.4: whatever comes, a store answers as a list of types would.
func TestAnyTypes(t *testing.T) {
	r := rand.New(rand.NewSource(17))
	types := someTypes(t)
	surely := 0
	for range 150 {
		s, m := New(), &plain{}
		for range 200 {
			x := types[r.Intn(len(types))]
			switch r.Intn(30) {
			case 0:
				s.Loosen()
				m.loosen()
			case 1, 2, 3:
				puts(t, s, m, x)
			case 4:
				sets(t, s, m, x)
			case 5, 6, 7:
				begins(t, s, m, x.Name, someNodes(r)...)
			default:
				by, node := x.By, r.Intn(17)
				if k := m.find(x.Name); k != nil && len(k.Wait) > 0 && r.Intn(3) > 0 {
					by, node = k.T.By, k.Wait[r.Intn(len(k.Wait))]
				}
				if sure, _ := stores(t, s, m, x.Name, by, node); sure {
					surely++
				}
			}
			agrees(t, s, m)
		}
	}
	if surely < 500 {
		t.Errorf("only %d types became sure", surely)
	}
}

// Promise 17.4: a type becomes sure just when all for whom it waited have said so, in whichever order.
func TestSureAtTheLast(t *testing.T) {
	r := rand.New(rand.NewSource(172))
	by := id(3, 1, 8)
	for range 300 {
		s, m := New(), &plain{}
		puts(t, s, m, root(t, "News", by))
		var nodes []int
		for _, node := range r.Perm(15)[:1+r.Intn(15)] {
			nodes = append(nodes, node+1)
		}
		slices.Sort(nodes)
		begins(t, s, m, "News", nodes...)
		for i, at := range r.Perm(len(nodes)) {
			if k, _ := s.Find("News"); k.Sure || len(k.Wait) != len(nodes)-i || s.Waits() != 1 {
				t.Fatalf("%d of %v have said so: %v", i, nodes, k)
			}
			if sure, e := stores(t, s, m, "news", by, nodes[at]); e != api.OK || sure != (i == len(nodes)-1) {
				t.Fatalf("%d of %v have said so: %v, %v", i+1, nodes, sure, e)
			}
		}
		agrees(t, s, m)
	}
}

// Promise 17.4: in whichever order types of one name are put, the one whose By stands first is kept.
func TestFirstIsKept(t *testing.T) {
	r := rand.New(rand.NewSource(174))
	for range 300 {
		var types []api.Type
		made := map[api.ID]int{}
		for i := range 1 + r.Intn(8) {
			by := id(1+r.Intn(3), 1+r.Intn(3), 1+r.Intn(3))
			if made[by]++; made[by] == 1 {
				types = append(types, below(t, root(t, "top"+strconv.Itoa(i), id(1, 1, 1)), []string{"News", "NEWS", "nEWS"}[r.Intn(3)], by))
			}
		}
		first := slices.MinFunc(types, func(a, b api.Type) int { return forest.Order(a.By, b.By) })
		s := New()
		for _, i := range r.Perm(len(types)) {
			s.Put(types[i])
		}
		if k, is := s.Find("news"); !is || !forest.Same(k.T, first) || len(s.All()) != 1 {
			t.Fatalf("%v is kept, not %v", k.T, first)
		}
	}
}

// Rule R3: what is handed in is not kept, what is answered is new memory.
func TestMemory(t *testing.T) {
	s, m := New(), &plain{}
	news := below(t, root(t, "Top", id(1, 1, 1)), "News", id(2, 2, 2))
	earlier := below(t, root(t, "Top", id(1, 1, 1)), "News", id(1, 1, 2))
	golf := below(t, root(t, "Top", id(1, 1, 1)), "Golf", id(2, 2, 2))
	for _, x := range []api.Type{news, news, earlier} {
		handed := copied(x)
		got, _ := puts(t, s, m, handed)
		spoil(handed)
		agrees(t, s, m)
		if !forest.Same(got, x) {
			t.Errorf("what is answered shares memory with what was handed in: %v", got)
		}
		spoil(got)
		agrees(t, s, m)
	}
	sets(t, s, m, golf)
	spoil(golf)
	agrees(t, s, m)
	nodes := []int{2, 4}
	begins(t, s, m, "news", nodes...)
	s.Begin("golf", nodes)
	m.begin("golf", nodes)
	clear(nodes)
	agrees(t, s, m)
	one, other := s.All(), s.All()
	k, _ := s.Find("news")
	for _, x := range append(one, k.T) {
		spoil(x)
	}
	clear(k.Wait)
	agrees(t, s, m)
	if !slices.EqualFunc(other, m.all(), forest.Same) {
		t.Errorf("two answers share memory: %v", other)
	}
	// A root's Own and All are the same, but in memory of their own.
	x, _ := s.Put(root(t, "a", id(1, 1, 9)))
	if clear(x.Own); x.All[0].Name != "a" {
		t.Errorf("two lists share memory: %v", x)
	}
}

// The chapter's example.
func TestExample(t *testing.T) {
	s := New()
	by := id(1, 1, 1)
	s.Put(root(t, "News", by))
	if sure, e := s.Begin("News", []int{2, 5}); sure || e != api.OK {
		t.Errorf("Begin: %v, %v", sure, e)
	}
	if sure, e := s.Stored("News", by, 5); sure || e != api.OK {
		t.Errorf("Stored by 5: %v, %v", sure, e)
	}
	if sure, e := s.Stored("News", by, 5); sure || e != api.ErrNone {
		t.Errorf("Stored by 5 again: %v, %v", sure, e)
	}
	if sure, e := s.Stored("News", by, 2); !sure || e != api.OK {
		t.Errorf("Stored by 2: %v, %v", sure, e)
	}
}
