package table

import (
	"math"
	"math/rand"
	"slices"
	"strconv"
	"strings"
	"testing"

	"caduceus/api"
	"caduceus/filter"
	"caduceus/name"
)

func num(n int) api.Value { return api.Value{Kind: api.KindInt, N: n} }

func attr(title string, v api.Value) api.Attr { return api.Attr{Name: title, V: v} }

// of is attributes: a alone.
func of(n int) []api.Attr { return []api.Attr{attr("a", num(n))} }

// says is the filters of texts.
func says(t *testing.T, l ...string) (out [][]api.Pred) {
	t.Helper()
	for _, s := range l {
		f, at, e := filter.Parse(s)
		if e != api.OK {
			t.Fatalf("%q goes wrong at %d: %v", s, at, e)
		}
		out = append(out, f)
	}
	return out
}

func rowOf(node, ver int, l [][]api.Pred) api.Row { return api.Row{Node: node, Ver: ver, F: l} }

func copied(x api.Row) api.Row {
	out := api.Row{Node: x.Node, Ver: x.Ver}
	for _, f := range x.F {
		var g []api.Pred
		for _, p := range f {
			g = append(g, api.Pred{Name: p.Name, Op: p.Op, L: slices.Clone(p.L)})
		}
		out.F = append(out.F, g)
	}
	return out
}

func same(a, b api.Row) bool {
	return a.Node == b.Node && a.Ver == b.Ver && slices.EqualFunc(a.F, b.F, filter.Same)
}

// spoil writes over all memory of a row.
func spoil(x api.Row) {
	for _, f := range x.F {
		for i := range f {
			for k := range f[i].L {
				f[i].L[k] = api.Value{}
			}
			f[i] = api.Pred{}
		}
	}
	clear(x.F)
}

// plain is a table as the chapter's words tell it: rows in the order in which they came.
type plain struct {
	l []named
}

type named struct {
	title string
	x     api.Row
}

func (m *plain) place(s string, node int) int {
	return slices.IndexFunc(m.l, func(n named) bool { return n.title == name.Fold(s) && n.x.Node == node })
}

func (m *plain) put(s string, x api.Row) api.Errno {
	wrong := name.Check(s) != api.OK || x.Node < 1 || x.Node > 15 || x.Ver < 1 || x.Ver > 1<<40-1 || len(x.F) > 20
	for _, f := range x.F {
		wrong = wrong || !filter.Check(f)
	}
	at := m.place(s, x.Node)
	switch {
	case wrong:
		return api.ErrArg
	case at >= 0 && m.l[at].x.Ver >= x.Ver:
		return api.ErrThere
	case at >= 0:
		m.l = slices.Delete(m.l, at, at+1)
	}
	m.l = append(m.l, named{name.Fold(s), copied(x)})
	return api.OK
}

func (m *plain) rows(s string) (out []api.Row) {
	for node := range 16 {
		if at := m.place(s, node); at >= 0 {
			out = append(out, m.l[at].x)
		}
	}
	return out
}

func (m *plain) names() (out []string) {
	for _, n := range m.l {
		if !slices.Contains(out, n.title) {
			out = append(out, n.title)
		}
	}
	slices.SortFunc(out, name.Compare)
	return out
}

func (m *plain) match(s string, a []api.Attr) (nodes []int) {
	for _, x := range m.rows(s) {
		if slices.ContainsFunc(x.F, func(f []api.Pred) bool { return filter.Lets(f, a) }) {
			nodes = append(nodes, x.Node)
		}
	}
	return nodes
}

func (m *plain) drop(node int) int {
	before := len(m.l)
	m.l = slices.DeleteFunc(m.l, func(n named) bool { return n.x.Node == node })
	return before - len(m.l)
}

// puts puts into both, and tells whether they answer the same.
func puts(t *testing.T, y *Table, m *plain, s string, x api.Row) api.Errno {
	t.Helper()
	before := copied(x)
	e, want := y.Put(s, x), m.put(s, x)
	if e != want || !same(before, x) {
		t.Fatalf("Put(%q, %v): %v, not %v", s, before, e, want)
	}
	return e
}

// matches holds Match against the rows' filters one by one.
func matches(t *testing.T, y *Table, m *plain, s string, a []api.Attr) {
	t.Helper()
	before := slices.Clone(a)
	if got, want := y.Match(s, a), m.match(s, a); !slices.Equal(got, want) || !slices.Equal(a, before) {
		t.Fatalf("Match(%q, %v): %v, not %v", s, before, got, want)
	}
}

// anyTitles: names, written in more than one way, and what is no name.
func anyTitles() []string {
	return []string{"News", "NEWS", "news", "Golf", "golf", "a.b.c", "A.b.C", "Émile.x-1", "ÉMILE.X-1", "_", "z", "", "1", "a..b", "no name", "\xff", "news."}
}

// agrees tells what a table answers otherwise than the list, and whether it keeps filters of rows that are not there.
func agrees(t *testing.T, y *Table, m *plain) {
	t.Helper()
	names := y.Names()
	if !slices.Equal(names, m.names()) {
		t.Fatalf("Names: %q, not %q", names, m.names())
	}
	for _, s := range slices.Concat(names, anyTitles()) {
		if got, want := y.Rows(s), m.rows(s); !slices.EqualFunc(got, want, same) {
			t.Fatalf("Rows(%q): %v, not %v", s, got, want)
		}
		for node := -1; node <= 17; node++ {
			want := 0
			if at := m.place(s, node); at >= 0 {
				want = m.l[at].x.Ver
			}
			if got := y.Ver(s, node); got != want {
				t.Fatalf("Ver(%q, %d): %d, not %d", s, node, got, want)
			}
		}
	}
	if len(y.rows) != len(names) || len(y.wants) != len(names) {
		t.Fatalf("%d types and %d indexes are kept, of %d", len(y.rows), len(y.wants), len(names))
	}
	for _, s := range names {
		count := 0
		for _, x := range m.rows(s) {
			count += len(x.F)
		}
		if len(y.wants[s].All()) != count {
			t.Fatalf("%d filters are kept of %q, of %d", len(y.wants[s].All()), s, count)
		}
	}
}

// Promise 16.1: New.
func TestNew(t *testing.T) {
	y := New()
	agrees(t, y, &plain{})
	if y.Names() != nil || y.Rows("News") != nil || y.Ver("News", 1) != 0 || y.Match("News", of(1)) != nil || y.Drop(1) != 0 {
		t.Errorf("an empty table has something")
	}
	z := New()
	if z.Put("News", rowOf(1, 1, nil)); len(y.Names()) != 0 {
		t.Errorf("two tables are one")
	}
}

// Promise 16.1: what may not be is refused, ahead of all else, and changes nothing.
func TestWrongRows(t *testing.T) {
	y, m := New(), &plain{}
	one := says(t, "a = 1")
	puts(t, y, m, "News", rowOf(1, 5, one))
	puts(t, y, m, "News", rowOf(15, 5, nil))
	var rows []api.Row
	for _, node := range []int{0, -1, 16, math.MaxInt, math.MinInt} {
		rows = append(rows, rowOf(node, 9, one), rowOf(node, 9, nil))
	}
	for _, ver := range []int{0, -1, api.MaxCount + 1, math.MaxInt, math.MinInt} {
		rows = append(rows, rowOf(1, ver, one), rowOf(2, ver, nil))
	}
	wrong := [][]api.Pred{
		{{}}, {{Name: "a"}}, {{Name: "a", Op: api.OpEq}}, {{Name: "a", Op: 10, L: []api.Value{num(1)}}}, {{Name: "a.b", Op: api.OpHas}}, {{Name: "any", Op: api.OpHas}},
		{{Name: "a", Op: api.OpIn, L: []api.Value{num(2), num(1)}}}, {{Name: "a", Op: api.OpEq, L: []api.Value{num(api.MaxInt + 1)}}}, slices.Repeat(one[0], api.MaxPreds+1),
	}
	for _, f := range wrong {
		rows = append(rows, rowOf(1, 9, [][]api.Pred{f}), rowOf(2, 9, [][]api.Pred{one[0], f}), rowOf(1, 5, [][]api.Pred{f, nil}), rowOf(1, 9, append(slices.Repeat(one, 19), f)))
	}
	rows = append(rows, rowOf(1, 9, slices.Repeat(one, 21)), rowOf(2, 9, make([][]api.Pred, 21)), rowOf(1, 5, make([][]api.Pred, 1000)))
	for _, x := range rows {
		if e := puts(t, y, m, "News", x); e != api.ErrArg {
			t.Errorf("Put of node %d, version %d, %d filters: %v", x.Node, x.Ver, len(x.F), e)
		}
	}
	for _, s := range []string{"", "1", ".a", "a.", "a..b", "a b", "\xff", "a.b.c.d.e.f", strings.Repeat("a", 41), strings.Repeat("é", 41)} {
		if e := puts(t, y, m, s, rowOf(3, 9, one)); e != api.ErrArg {
			t.Errorf("Put of %q: %v", s, e)
		}
	}
	agrees(t, y, m)
}

// Promise 16.1: the least and the greatest of all that may be.
func TestEdges(t *testing.T) {
	y, m := New(), &plain{}
	most := slices.Repeat(says(t, "a = 1", "a > 5"), 10)
	for _, s := range []string{"a", strings.Repeat("é", 40), "a.b.c.d.e", "News"} {
		for node := 1; node <= 15; node++ {
			for _, x := range []api.Row{rowOf(node, 1, nil), rowOf(node, 2, most), rowOf(node, api.MaxCount-1, most[:1]), rowOf(node, api.MaxCount, most)} {
				if e := puts(t, y, m, s, x); e != api.OK {
					t.Fatalf("Put of node %d, version %d: %v", node, x.Ver, e)
				}
			}
			if e := puts(t, y, m, s, rowOf(node, api.MaxCount, nil)); e != api.ErrThere {
				t.Fatalf("Put behind the last version: %v", e)
			}
		}
		for _, n := range []int{0, 1, 5, 6} {
			matches(t, y, m, s, of(n))
		}
	}
	agrees(t, y, m)
}

// Promise 16.1: a version that is not above the one that is there.
func TestVersions(t *testing.T) {
	y, m := New(), &plain{}
	for i, x := range []struct {
		s         string
		node, ver int
		e         api.Errno
	}{
		{"News", 2, 5, api.OK}, {"news", 2, 5, api.ErrThere}, {"NEWS", 2, 4, api.ErrThere}, {"News", 2, 1, api.ErrThere}, {"News", 3, 1, api.OK},
		{"Golf", 2, 1, api.OK}, {"news", 2, 6, api.OK}, {"News", 2, 5, api.ErrThere}, {"News", 2, 100, api.OK}, {"News", 2, 99, api.ErrThere}, {"golf", 2, 2, api.OK},
	} {
		if e := puts(t, y, m, x.s, rowOf(x.node, x.ver, says(t, "a = "+strconv.Itoa(i)))); e != x.e {
			t.Errorf("%d: Put(%q, node %d, version %d): %v, not %v", i, x.s, x.node, x.ver, e, x.e)
		}
		for n := range 11 {
			matches(t, y, m, "news", of(n))
			matches(t, y, m, "golf", of(n))
		}
		agrees(t, y, m)
	}
}

// Promises 16.1, 16.2: a row of no filters is one, and wants nothing; one that asks nothing wants all.
func TestNoFilters(t *testing.T) {
	y, m := New(), &plain{}
	puts(t, y, m, "News", rowOf(3, 1, nil))
	puts(t, y, m, "News", rowOf(4, 1, [][]api.Pred{}))
	puts(t, y, m, "News", rowOf(5, 1, [][]api.Pred{nil}))
	puts(t, y, m, "News", rowOf(6, 1, [][]api.Pred{{}}))
	puts(t, y, m, "Golf", rowOf(3, 7, nil))
	agrees(t, y, m)
	if l := y.Rows("news"); len(l) != 4 || len(l[0].F) != 0 || len(l[1].F) != 0 || len(l[2].F) != 1 || len(l[3].F) != 1 {
		t.Errorf("Rows: %v", l)
	}
	for _, a := range [][]api.Attr{nil, {}, of(1)} {
		if got := y.Match("News", a); !slices.Equal(got, []int{5, 6}) {
			t.Errorf("Match(%v): %v", a, got)
		}
	}
	if got := y.Match("Golf", nil); got != nil {
		t.Errorf("Match: %v", got)
	}
	puts(t, y, m, "News", rowOf(5, 2, nil))
	if got := y.Match("News", of(1)); !slices.Equal(got, []int{6}) || y.Ver("News", 5) != 2 {
		t.Errorf("behind a row of no filters: %v", got)
	}
	agrees(t, y, m)
}

// Promise 16.2: Rows by nodes, Names by name.Compare, whichever came first.
func TestOrders(t *testing.T) {
	y, m := New(), &plain{}
	for _, s := range []string{"z", "Émile", "b.a", "B", "ba", "b-a", "_x", "中", "Ж"} {
		for _, node := range []int{15, 2, 9, 1, 10} {
			puts(t, y, m, s, rowOf(node, node, says(t, "a = "+strconv.Itoa(node), "has b")))
		}
	}
	if got := y.Names(); !slices.Equal(got, []string{"_x", "b", "b-a", "b.a", "ba", "z", "émile", "ж", "中"}) {
		t.Errorf("Names: %q", got)
	}
	for _, s := range y.Names() {
		var nodes []int
		for _, x := range y.Rows(s) {
			nodes = append(nodes, x.Node)
		}
		if !slices.Equal(nodes, []int{1, 2, 9, 10, 15}) {
			t.Errorf("Rows(%q): nodes %v", s, nodes)
		}
		if got := y.Match(strings.ToUpper(s), []api.Attr{attr("a", num(10)), attr("b", num(1))}); !slices.Equal(got, []int{1, 2, 9, 10, 15}) {
			t.Errorf("Match(%q): %v", s, got)
		}
	}
	agrees(t, y, m)
}

// Promise 16.2: each node is matched once, by any of its filters; attributes that may not be by none.
func TestMatch(t *testing.T) {
	y, m := New(), &plain{}
	puts(t, y, m, "News", rowOf(12, 1, says(t, "a = 1", "a = 2", "has a", "A > 0")))
	puts(t, y, m, "News", rowOf(3, 1, says(t, "a = 3", "b = 1", "a = 1 and b = 2")))
	puts(t, y, m, "News", rowOf(7, 1, says(t, "any")))
	puts(t, y, m, "News.Sport", rowOf(4, 1, says(t, "any")))
	for i, x := range []struct {
		s    string
		a    []api.Attr
		want []int
	}{
		{"News", nil, []int{7}}, {"NEWS", of(1), []int{7, 12}}, {"news", of(3), []int{3, 7, 12}}, {"News", []api.Attr{attr("b", num(1))}, []int{3, 7}},
		{"News", []api.Attr{attr("A", num(1)), attr("B", num(2))}, []int{3, 7, 12}}, {"News", []api.Attr{attr("c", num(1))}, []int{7}}, {"news.sport", of(1), []int{4}},
		{"Golf", of(1), nil}, {"", of(1), nil}, {"\xff", nil, nil}, {"News.", nil, nil},
		{"News", []api.Attr{attr("b", num(1)), attr("a", num(1))}, nil}, {"News", []api.Attr{{}}, nil}, {"News", []api.Attr{attr("a", num(1)), attr("A", num(1))}, nil},
		{"News", []api.Attr{attr("a.b", num(1))}, nil}, {"News", []api.Attr{attr("a", api.Value{})}, nil},
	} {
		if got := y.Match(x.s, x.a); !slices.Equal(got, x.want) {
			t.Errorf("%d: Match(%q, %v): %v, not %v", i, x.s, x.a, got, x.want)
		}
		matches(t, y, m, x.s, x.a)
	}
}

// Promise 16.3: Drop, and that versions go with rows.
func TestDrop(t *testing.T) {
	y, m := New(), &plain{}
	for _, s := range []string{"News", "Golf", "a"} {
		puts(t, y, m, s, rowOf(2, 9, says(t, "any", "a = 1")))
	}
	puts(t, y, m, "News", rowOf(15, 3, says(t, "a = 1")))
	puts(t, y, m, "News", rowOf(1, 3, nil))
	for _, node := range []int{0, 3, -1, 16, math.MaxInt, math.MinInt} {
		if n := y.Drop(node); n != 0 {
			t.Errorf("Drop(%d): %d", node, n)
		}
	}
	agrees(t, y, m)
	if n := y.Drop(2); n != 3 || n != m.drop(2) || !slices.Equal(y.Names(), []string{"news"}) || y.Ver("News", 2) != 0 {
		t.Errorf("Drop(2): %d, %q", n, y.Names())
	}
	agrees(t, y, m)
	matches(t, y, m, "News", of(1))
	if n := y.Drop(2); n != 0 {
		t.Errorf("Drop(2) again: %d", n)
	}
	if e := puts(t, y, m, "News", rowOf(2, 1, says(t, "a = 2"))); e != api.OK {
		t.Errorf("Put of an old version, behind that: %v", e)
	}
	matches(t, y, m, "News", of(1))
	matches(t, y, m, "News", of(2))
	for _, node := range []int{1, 2, 15} {
		if n := y.Drop(node); n != 1 || m.drop(node) != 1 {
			t.Errorf("Drop(%d): %d", node, n)
		}
		agrees(t, y, m)
	}
	if y.Names() != nil {
		t.Errorf("Names: %q", y.Names())
	}
}

// Promise 16.3: Clear, and that versions go with rows.
func TestClear(t *testing.T) {
	y := New()
	for range 3 {
		m := &plain{}
		for _, s := range []string{"News", "Golf"} {
			for _, node := range []int{1, 15} {
				if e := puts(t, y, m, s, rowOf(node, 1, says(t, "any"))); e != api.OK {
					t.Fatalf("Put: %v", e)
				}
			}
		}
		agrees(t, y, m)
		y.Clear()
		agrees(t, y, &plain{})
		if y.Match("News", nil) != nil || y.Drop(1) != 0 || y.Names() != nil || y.Rows("News") != nil {
			t.Fatalf("behind Clear there is something left")
		}
	}
	y.Clear()
}

// Promise 16.3: a nil table.
func TestNil(t *testing.T) {
	var y *Table
	for _, x := range []api.Row{{}, rowOf(1, 1, nil), rowOf(2, 3, says(t, "any"))} {
		if e := y.Put("News", x); e != api.ErrArg {
			t.Errorf("Put: %v", e)
		}
	}
	if y.Ver("News", 1) != 0 || y.Rows("News") != nil || y.Names() != nil || y.Match("News", of(1)) != nil || y.Drop(1) != 0 {
		t.Errorf("a nil table has something")
	}
	y.Clear()
}

// someFilters: few, that often ask for the same.
func someFilters(t *testing.T, r *rand.Rand) [][]api.Pred {
	var l []string
	for range r.Intn(5) * (1 + r.Intn(5)) {
		n := strconv.Itoa(r.Intn(5))
		l = append(l, []string{"any", "a = " + n, "a > " + n, "has b", "b = " + n + " and A != 1", "a in { 1 , 2 } and b < " + n, `c prefix "x"`, `C = "x" and a = ` + n}[r.Intn(8)])
	}
	return says(t, l[:min(len(l), 20)]...)
}

func someAttrs(r *rand.Rand) (a []api.Attr) {
	for _, s := range []string{"a", "B"} {
		if r.Intn(3) > 0 {
			a = append(a, attr(s, num(r.Intn(5))))
		}
	}
	if r.Intn(3) == 0 {
		a = append(a, attr("c", api.Value{Kind: api.KindText, S: "xy"[:r.Intn(3)]}))
	}
	return a
}

// Promises 16.1 to 16.4: whatever comes and goes, a table answers as its rows do one by one.
func TestAnyRows(t *testing.T) {
	r := rand.New(rand.NewSource(16))
	titles := anyTitles()
	for range 30 {
		y, m := New(), &plain{}
		for range 400 {
			s := titles[r.Intn(len(titles))]
			switch r.Intn(40) {
			case 0:
				node := r.Intn(17)
				if n, want := y.Drop(node), m.drop(node); n != want {
					t.Fatalf("Drop(%d): %d, not %d", node, n, want)
				}
				agrees(t, y, m)
			case 1:
				if r.Intn(4) == 0 {
					y.Clear()
					m.l = nil
				}
				agrees(t, y, m)
			default:
				puts(t, y, m, s, rowOf(r.Intn(17), r.Intn(8), someFilters(t, r)))
				matches(t, y, m, titles[r.Intn(len(titles))], someAttrs(r))
			}
		}
		agrees(t, y, m)
	}
}

// Promise 16.4: in whichever order versions come, what is matched hangs on the newest one alone.
func TestNewestAlone(t *testing.T) {
	r := rand.New(rand.NewSource(164))
	for range 60 {
		var all, newest []named
		for _, s := range []string{"News", "Golf"} {
			for node := 1; node <= 4; node++ {
				last := 1 + r.Intn(5)
				for ver := 1; ver <= last; ver++ {
					all = append(all, named{s, rowOf(node, ver, someFilters(t, r))})
				}
				newest = append(newest, all[len(all)-1])
			}
		}
		want, m := New(), &plain{}
		for _, n := range newest {
			puts(t, want, m, n.title, n.x)
		}
		for range 5 {
			y := New()
			for _, i := range r.Perm(len(all)) {
				y.Put(all[i].title, all[i].x)
			}
			agrees(t, y, m)
			for range 10 {
				a := someAttrs(r)
				matches(t, y, m, "news", a)
				matches(t, want, m, "news", a)
				matches(t, y, m, "golf", a)
			}
		}
	}
}

// Rule R3: what is handed in is not kept, what is answered is new memory.
func TestMemory(t *testing.T) {
	y, m := New(), &plain{}
	x := rowOf(2, 1, says(t, "a in { 1 , 2 } and has b", "a = 3", "a = 3"))
	puts(t, y, m, "News", x)
	puts(t, y, m, "Golf", x)
	spoil(x)
	agrees(t, y, m)
	one, other := y.Rows("News"), y.Rows("News")
	spoil(one[0])
	clear(one)
	if !same(other[0], m.l[0].x) {
		t.Errorf("two answers share memory: %v", other)
	}
	// No two lists of one answer share any memory either.
	for i, f := range other[0].F {
		_ = append(f, api.Pred{})
		_ = append(f[0].L, num(9))
		if spoil(api.Row{F: other[0].F[:i]}); !filter.Same(f, m.l[0].x.F[i]) {
			t.Errorf("two filters share memory: %v", f)
		}
	}
	clear(y.Names())
	clear(y.Match("News", of(3)))
	agrees(t, y, m)
	matches(t, y, m, "News", of(3))
	matches(t, y, m, "Golf", []api.Attr{attr("a", num(1)), attr("b", num(1))})
}

// The chapter's example.
func TestExample(t *testing.T) {
	y := New()
	y.Put("News", rowOf(2, 1, says(t, "a = 1")))
	y.Put("News", rowOf(5, 3, says(t, "any")))
	if got := y.Match("News", of(2)); !slices.Equal(got, []int{5}) {
		t.Errorf("Match of a = 2: %v", got)
	}
	if got := y.Match("News", of(1)); !slices.Equal(got, []int{2, 5}) {
		t.Errorf("Match of a = 1: %v", got)
	}
	if e := y.Put("News", rowOf(5, 2, says(t, "a = 7"))); e != api.ErrThere {
		t.Errorf("Put of version 2: %v", e)
	}
}
