package index

import (
	"math"
	"math/rand"
	"slices"
	"strings"
	"testing"

	"caduceus/api"
	"caduceus/filter"
	"caduceus/schema"
)

func num(n int) api.Value     { return api.Value{Kind: api.KindInt, N: n} }
func text(s string) api.Value { return api.Value{Kind: api.KindText, S: s} }
func truth(n int) api.Value   { return api.Value{Kind: api.KindBool, N: n} }
func raw(s string) api.Value  { return api.Value{Kind: api.KindBytes, S: s} }

func attr(title string, v api.Value) api.Attr { return api.Attr{Name: title, V: v} }

// says is the filter of a text.
func says(t *testing.T, s string) []api.Pred {
	t.Helper()
	f, at, e := filter.Parse(s)
	if e != api.OK {
		t.Fatalf("%q goes wrong at %d: %v", s, at, e)
	}
	return f
}

func copied(f []api.Pred) (out []api.Pred) {
	for _, p := range f {
		out = append(out, api.Pred{Name: p.Name, Op: p.Op, L: slices.Clone(p.L)})
	}
	return out
}

// wrongFilters: what is no filter.
func wrongFilters() [][]api.Pred {
	good := api.Pred{Name: "a", Op: api.OpEq, L: []api.Value{num(1)}}
	return [][]api.Pred{
		{{}},
		{{Name: "a"}},
		{{Name: "a", Op: api.OpEq}},
		{{Name: "a", Op: api.OpEq, L: []api.Value{num(1), num(2)}}},
		{{Name: "a", Op: 10, L: []api.Value{num(1)}}},
		{{Name: "a", Op: math.MinInt, L: []api.Value{num(1)}}},
		{{Name: "a", Op: api.OpHas, L: []api.Value{num(1)}}},
		{{Name: "a", Op: api.OpIn, L: []api.Value{num(2), num(1)}}},
		{{Name: "a", Op: api.OpIn}},
		{{Name: "a", Op: api.OpEq, L: []api.Value{{}}}},
		{{Name: "a", Op: api.OpEq, L: []api.Value{text("\xff")}}},
		{{Name: "a.b", Op: api.OpHas}},
		{{Name: "any", Op: api.OpHas}},
		{{Name: "\xff", Op: api.OpHas}},
		{good, {}},
		slices.Repeat([]api.Pred{good}, api.MaxPreds+1),
	}
}

// plain is filters as the chapter's words tell them: a list, in the order in which they came.
type plain struct {
	l []numbered
}

type numbered struct {
	id int
	f  []api.Pred
}

func (m *plain) place(id int) int {
	return slices.IndexFunc(m.l, func(n numbered) bool { return n.id == id })
}

func (m *plain) all() (ids []int) {
	for _, n := range m.l {
		ids = append(ids, n.id)
	}
	slices.Sort(ids)
	return ids
}

func (m *plain) match(a []api.Attr) (ids []int) {
	for _, n := range m.l {
		if filter.Lets(n.f, a) {
			ids = append(ids, n.id)
		}
	}
	slices.Sort(ids)
	return ids
}

// adds adds to both, and tells whether they answer the same.
func adds(t *testing.T, x *Index, m *plain, id int, f []api.Pred) api.Errno {
	t.Helper()
	want := api.OK
	switch {
	case !filter.Check(f):
		want = api.ErrArg
	case m.place(id) >= 0:
		want = api.ErrThere
	case len(m.l) >= 300:
		want = api.ErrFull
	default:
		m.l = append(m.l, numbered{id, copied(f)})
	}
	before := copied(f)
	e := x.Add(id, f)
	if e != want || !filter.Same(before, f) {
		t.Fatalf("Add(%d, %v): %v, not %v", id, f, e, want)
	}
	return e
}

// removes removes from both, and tells whether they answer the same.
func removes(t *testing.T, x *Index, m *plain, id int) api.Errno {
	t.Helper()
	want := api.ErrNone
	if at := m.place(id); at >= 0 {
		want = api.OK
		m.l = slices.Delete(m.l, at, at+1)
	}
	e := x.Remove(id)
	if e != want {
		t.Fatalf("Remove(%d): %v, not %v", id, e, want)
	}
	return e
}

// matches holds Match and Any against the filters one by one.
func matches(t *testing.T, x *Index, m *plain, a []api.Attr) {
	t.Helper()
	before := slices.Clone(a)
	want := m.match(a)
	if got, is := x.Match(a), x.Any(a); !slices.Equal(got, want) || is != (len(want) > 0) || !slices.Equal(a, before) {
		t.Fatalf("Match(%v): %v, Any %v; not %v", before, got, is, want)
	}
}

// agrees tells what an index answers otherwise than the list, and whether it keeps predicates of filters that are not there.
func agrees(t *testing.T, x *Index, m *plain) {
	t.Helper()
	if !slices.Equal(x.All(), m.all()) {
		t.Fatalf("All: %v, not %v", x.All(), m.all())
	}
	preds := 0
	for _, n := range m.l {
		if f, is := x.Get(n.id); !is || !filter.Same(f, n.f) {
			t.Fatalf("Get(%d): %v, %v; not %v", n.id, f, is, n.f)
		}
		preds += len(n.f)
	}
	for _, id := range []int{1 << 40, -1 << 40} {
		if f, is := x.Get(id); f != nil || is {
			t.Fatalf("Get(%d): %v, %v", id, f, is)
		}
	}
	if kept := count(t, x.exact) + count(t, x.others); kept != preds {
		t.Fatalf("%d predicates are kept, of %d", kept, preds)
	}
}

func count[K comparable](t *testing.T, m asked[K]) (n int) {
	for key, by := range m {
		if len(by) == 0 {
			t.Fatalf("%v is kept, but none asks it", key)
		}
		for _, l := range by {
			n += len(l)
		}
	}
	return n
}

// Promise 15.1: New.
func TestNew(t *testing.T) {
	x := New()
	agrees(t, x, &plain{})
	if x.All() != nil || x.Match(nil) != nil || x.Any(nil) || x.Remove(0) != api.ErrNone {
		t.Errorf("an empty index has something")
	}
	y := New()
	if y.Add(1, nil); len(x.All()) != 0 {
		t.Errorf("two indexes are one")
	}
}

// Promise 15.1: Add, Remove, Get and All, of any numbers.
func TestNumbers(t *testing.T) {
	x, m := New(), &plain{}
	ids := []int{5, -1, 0, math.MaxInt, math.MinInt, 7, 1, -100}
	for i, id := range ids {
		f := says(t, []string{"any", "a = 1", "has b and B > 5", "a in { 1 , 2 } and a != 1"}[i%4])
		if e := adds(t, x, m, id, f); e != api.OK {
			t.Fatalf("Add(%d): %v", id, e)
		}
		if e := adds(t, x, m, id, f); e != api.ErrThere {
			t.Fatalf("Add(%d) again: %v", id, e)
		}
		adds(t, x, m, id, nil)
		agrees(t, x, m)
	}
	if !slices.Equal(x.All(), []int{math.MinInt, -100, -1, 0, 1, 5, 7, math.MaxInt}) {
		t.Errorf("All: %v", x.All())
	}
	for _, id := range []int{2, -2, math.MaxInt - 1} {
		if f, is := x.Get(id); f != nil || is || removes(t, x, m, id) != api.ErrNone {
			t.Errorf("%d: %v, %v", id, f, is)
		}
	}
	for _, id := range ids {
		if e := removes(t, x, m, id); e != api.OK {
			t.Fatalf("Remove(%d): %v", id, e)
		}
		if e := removes(t, x, m, id); e != api.ErrNone {
			t.Fatalf("Remove(%d) again: %v", id, e)
		}
		if f, is := x.Get(id); f != nil || is {
			t.Fatalf("Get(%d): %v, %v", id, f, is)
		}
		agrees(t, x, m)
	}
}

// Promise 15.1: what is no filter is refused, ahead of all else.
func TestWrongFilters(t *testing.T) {
	x, m := New(), &plain{}
	adds(t, x, m, 1, says(t, "a = 1"))
	for _, f := range wrongFilters() {
		for _, id := range []int{1, 2} {
			if e := adds(t, x, m, id, f); e != api.ErrArg {
				t.Errorf("Add(%d, %v): %v", id, f, e)
			}
		}
	}
	agrees(t, x, m)
}

// Promise 15.1: there are at most MaxIndex, and which error comes ahead then.
func TestFull(t *testing.T) {
	if MaxIndex != 300 {
		t.Fatalf("MaxIndex is %d", MaxIndex)
	}
	x, m := New(), &plain{}
	for i := range MaxIndex {
		if e := adds(t, x, m, 3*i-400, says(t, []string{"any", "a = 1", "a > 5 and b = 2"}[i%3])); e != api.OK {
			t.Fatalf("Add, %d: %v", i, e)
		}
	}
	f := says(t, "a = 1")
	for _, id := range []int{1, math.MaxInt} {
		if e := adds(t, x, m, id, f); e != api.ErrFull {
			t.Errorf("Add(%d): %v", id, e)
		}
		if e := adds(t, x, m, id, wrongFilters()[0]); e != api.ErrArg {
			t.Errorf("Add(%d) of none: %v", id, e)
		}
	}
	if e := adds(t, x, m, -400, f); e != api.ErrThere {
		t.Errorf("Add of one that is there: %v", e)
	}
	agrees(t, x, m)
	matches(t, x, m, []api.Attr{attr("a", num(1)), attr("b", num(2))})
	matches(t, x, m, []api.Attr{attr("a", num(6)), attr("b", num(2))})
	if removes(t, x, m, -397) != api.OK || adds(t, x, m, 1, f) != api.OK || adds(t, x, m, 4, f) != api.ErrFull {
		t.Errorf("one goes, and one comes")
	}
	agrees(t, x, m)
}

// Promise 15.2: Match and Any, by what filters say.
func TestMatch(t *testing.T) {
	x, m := New(), &plain{}
	for i, s := range []string{
		"any", "a = 1", "A = 1 and a = 1", "a = 1 and a = 2", "a in { 1 }", "a in { 1 , 2 }", "a in { 1 } and a = 1 and a in { 1 , 2 }", "a != 1",
		"has a", "has a and has A", "a > 0", "a >= 1 and a <= 1", "a < 1", "a = 1 and b = 2", "a = 1 and has b", "b = 1", `a = "1"`, "a = true",
		"a = x'01'", "a = x''", `a = ""`, `a prefix ""`, "a prefix x''", `a prefix "ab" and a != "ab"`, "é = 1", "É = 1 and é > 0", "a = 0", "a = false",
		`a in { "" , "abc" }`, "a in { false , true }", "a = -1", "a = 9007199254740991",
	} {
		if e := adds(t, x, m, 100-i, says(t, s)); e != api.OK {
			t.Fatalf("Add %q: %v", s, e)
		}
	}
	agrees(t, x, m)
	values := []api.Value{num(0), num(1), num(-1), num(2), num(api.MaxInt), truth(0), truth(1), text(""), text("1"), text("ab"), text("abc"), raw(""), raw("\x01"), raw("ab")}
	for _, v := range values {
		for _, s := range []string{"a", "A", "b", "c", "é", "É"} {
			matches(t, x, m, []api.Attr{attr(s, v)})
		}
		for _, w := range values {
			matches(t, x, m, []api.Attr{attr("A", v), attr("b", w)})
			matches(t, x, m, []api.Attr{attr("a", v), attr("B", w), attr("é", v)})
		}
	}
	matches(t, x, m, nil)
	matches(t, x, m, []api.Attr{})
	if got := x.Match([]api.Attr{attr("A", num(1))}); !slices.Equal(got, []int{89, 90, 91, 92, 94, 95, 96, 98, 99, 100}) {
		t.Errorf("Match: %v", got)
	}
}

// Promise 15.2: attributes that may not be are let by by none, not even by one that asks nothing.
func TestWrongAttrs(t *testing.T) {
	x, m := New(), &plain{}
	for i, s := range []string{"any", "has a", "a = 1", "a > 0", "has b"} {
		adds(t, x, m, i, says(t, s))
	}
	var many []api.Attr
	for i := range api.MaxFields + 1 {
		many = append(many, attr("a"+strings.Repeat("a", i), num(1)))
	}
	if got := x.Match(many[:api.MaxFields]); !slices.Equal(got, []int{0, 1, 2, 3}) {
		t.Errorf("Match of as many as there may be: %v", got)
	}
	for _, a := range [][]api.Attr{
		many,
		{attr("b", num(1)), attr("a", num(1))},
		{attr("a", num(1)), attr("A", num(1))},
		{attr("a", num(1)), attr("a", num(1))},
		{attr("a", num(1)), attr("", num(1))},
		{attr("a", num(1)), attr("b.c", num(1))},
		{attr("a", num(1)), attr("b", num(api.MaxInt+1))},
		{attr("a", api.Value{})},
		{attr("a", api.Value{Kind: api.KindInt, N: 1, S: "x"})},
		{attr("a", text("\xff"))},
		{attr("a", num(1)), attr("\xff", num(1))},
		{{}},
	} {
		if got := x.Match(a); schema.Attrs(a) || got != nil || x.Any(a) {
			t.Errorf("Match(%v): %v, Any %v", a, got, x.Any(a))
		}
		matches(t, x, m, a)
	}
}

// Promise 15.2: a nil index.
func TestNil(t *testing.T) {
	var x *Index
	for _, f := range append(wrongFilters(), nil, says(t, "a = 1")) {
		if e := x.Add(1, f); e != api.ErrArg {
			t.Errorf("Add: %v", e)
		}
	}
	if e := x.Remove(1); e != api.ErrArg {
		t.Errorf("Remove: %v", e)
	}
	if f, is := x.Get(1); f != nil || is || x.All() != nil {
		t.Errorf("Get: %v, %v; All %v", f, is, x.All())
	}
	for _, a := range [][]api.Attr{nil, {attr("a", num(1))}, {{}}} {
		if x.Match(a) != nil || x.Any(a) {
			t.Errorf("Match(%v): %v", a, x.Match(a))
		}
	}
}

// someValue: few of each kind, so that they are often the same.
func someValue(r *rand.Rand) api.Value {
	switch r.Intn(6) {
	case 0:
		return text(strings.Repeat("a", r.Intn(3)))
	case 1:
		return raw(strings.Repeat("a", r.Intn(2)))
	case 2:
		return truth(r.Intn(2))
	}
	return num(r.Intn(4) - 1)
}

func someName(r *rand.Rand) string {
	return []string{"a", "A", "b", "B", "c", "é", "É"}[r.Intn(7)]
}

// somePred: one that may be.
func somePred(r *rand.Rand) api.Pred {
	for {
		p := api.Pred{Name: someName(r), Op: 1 + r.Intn(api.OpIn)}
		most := 1
		if p.Op == api.OpIn {
			most += r.Intn(3)
		}
		for range most {
			if p.Op != api.OpHas {
				p.L = append(p.L, someValue(r))
			}
		}
		if filter.Check([]api.Pred{p}) {
			return p
		}
	}
}

// someFilter: one that often asks for the same things more than once.
func someFilter(r *rand.Rand) (f []api.Pred) {
	for range r.Intn(4) * (1 + r.Intn(2)) {
		f = append(f, somePred(r))
	}
	if len(f) > 0 && r.Intn(3) == 0 {
		f = append(f, f[r.Intn(len(f))])
	}
	return f
}

func someAttrs(r *rand.Rand) (a []api.Attr) {
	for _, s := range [][]string{{"a", "A"}, {"b", "B"}, {"c", "C"}, {"é", "É"}} {
		if r.Intn(4) > 0 {
			a = append(a, attr(s[r.Intn(2)], someValue(r)))
		}
	}
	if r.Intn(20) == 0 {
		slices.Reverse(a)
	}
	return a
}

// Promises 15.1, 15.2, 15.3: whatever comes and goes, an index answers as its filters do one by one.
func TestAnyFilters(t *testing.T) {
	r := rand.New(rand.NewSource(15))
	for round := range 40 {
		x, m := New(), &plain{}
		span := 5 + 40*(round%8)
		for range 400 {
			id := r.Intn(span) - span/2
			switch r.Intn(5) {
			case 0, 1:
				adds(t, x, m, id, someFilter(r))
			case 2:
				removes(t, x, m, id)
			default:
				matches(t, x, m, someAttrs(r))
			}
		}
		agrees(t, x, m)
		for _, n := range slices.Clone(m.l) {
			removes(t, x, m, n.id)
			matches(t, x, m, someAttrs(r))
		}
		if agrees(t, x, m); len(x.exact)+len(x.others)+len(x.filters) != 0 {
			t.Fatalf("behind all there is something left")
		}
	}
}

// Promise 15.3: in which order filters came does not matter, nor what came and went between.
func TestOrder(t *testing.T) {
	r := rand.New(rand.NewSource(153))
	for range 50 {
		x, y, m := New(), New(), &plain{}
		for id := range 60 {
			adds(t, x, m, id, someFilter(r))
		}
		for _, id := range r.Perm(60) {
			y.Add(1000, someFilter(r))
			y.Add(id, m.l[id].f)
			y.Remove(1000)
		}
		agrees(t, y, m)
		for range 50 {
			a := someAttrs(r)
			matches(t, x, m, a)
			if got := y.Match(a); !slices.Equal(got, x.Match(a)) || y.Any(a) != x.Any(a) {
				t.Fatalf("Match(%v): %v and %v", a, x.Match(a), got)
			}
		}
	}
}

// Rule R3: what is handed in is not kept, what is answered is new memory.
func TestMemory(t *testing.T) {
	x, m := New(), &plain{}
	f := says(t, `a in { 1 , 2 } and b = "x" and a = 1 and has c`)
	adds(t, x, m, 4, f)
	adds(t, x, m, 2, nil)
	spoil := func(f []api.Pred) {
		for i := range f {
			for k := range f[i].L {
				f[i].L[k] = api.Value{}
			}
			f[i] = api.Pred{}
		}
	}
	spoil(f)
	agrees(t, x, m)
	a := []api.Attr{attr("a", num(1)), attr("b", text("x")), attr("c", truth(0))}
	one, _ := x.Get(4)
	other, _ := x.Get(4)
	spoil(one)
	for _, l := range [][]int{x.All(), x.Match(a)} {
		for i := range l {
			l[i] = -1
		}
	}
	if !filter.Same(other, m.l[0].f) || !slices.Equal(x.Match(a), []int{2, 4}) {
		t.Errorf("%v, %v", other, x.Match(a))
	}
	// No two lists of one answer share any memory either.
	for i := range other {
		_ = append(other[i].L, num(9))
	}
	if !filter.Same(other, m.l[0].f) {
		t.Errorf("%v", other)
	}
	agrees(t, x, m)
	matches(t, x, m, a)
}

// The chapter's example.
func TestExample(t *testing.T) {
	x := New()
	x.Add(7, says(t, "a = 1"))
	x.Add(3, says(t, "a > 0 and has b"))
	x.Add(5, says(t, "any"))
	if got := x.Match([]api.Attr{attr("a", num(1))}); !slices.Equal(got, []int{5, 7}) {
		t.Errorf("Match of a: %v", got)
	}
	if got := x.Match([]api.Attr{attr("a", num(1)), attr("b", num(2))}); !slices.Equal(got, []int{3, 5, 7}) {
		t.Errorf("Match of a and b: %v", got)
	}
}
