package forest

import (
	"math"
	"math/rand"
	"slices"
	"strconv"
	"strings"
	"testing"

	"caduceus/api"
	"caduceus/name"
	"caduceus/quic"
	"caduceus/schema"
)

func by(seq int) api.ID { return api.ID{Node: 1, Life: 1, Seq: seq} }

// fields: a schema by its line.
func fields(line string) []api.Field {
	l, e := schema.Parse(line)
	if e != api.OK {
		panic(line)
	}
	return l
}

// typed: a type by its chain and its lines.
func typed(own, all string, chain ...string) api.Type {
	x := api.Type{Name: chain[0], Own: fields(own), All: fields(all), Chain: chain, By: by(1)}
	if len(chain) > 1 {
		x.Parent = chain[1]
	}
	return x
}

func made(x api.Type, seq int) api.Type {
	x.By = by(seq)
	return x
}

// without: a copy of types, but for the one there.
func without(l []api.Type, at int) []api.Type {
	return slices.Delete(slices.Clone(l), at, at+1)
}

// with: a copy of types with another one there.
func with(l []api.Type, at int, x api.Type) []api.Type {
	out := slices.Clone(l)
	out[at] = x
	return out
}

var (
	news  = typed("title text!", "title text!", "News")
	sport = made(typed("score int", "score int, title text!", "News.Sport", "News"), 2)
	golf  = made(typed("-", "score int, title text!", "Golf", "News.Sport", "News"), 3)
	art   = made(typed("a bytes, z bool!", "a bytes, title text!, z bool!", "art", "News"), 4)
	other = made(typed("-", "-", "Émile"), 5)
)

// family: a forest.
func family() []api.Type {
	return allCopied([]api.Type{art, golf, news, sport, other})
}

// roots: a forest of that many roots.
func roots(count int) (l []api.Type) {
	for i := range count {
		l = append(l, made(typed("a int", "a int", "r"+strconv.Itoa(1000+i)), i+1))
	}
	return l
}

// line: a forest of one type below the other; d0 is the root.
func line(count int) (l []api.Type) {
	var chain []string
	for i := range count {
		chain = slices.Concat([]string{"d" + strconv.Itoa(i)}, chain)
		l = append(l, made(typed("-", "-", chain...), i+1))
	}
	return l
}

func sameAll(a, b []api.Type) bool {
	return slices.EqualFunc(a, b, Same)
}

func isZero(x api.Type) bool {
	return Same(x, api.Type{})
}

// spoil writes over all that a type's lists hold.
func spoil(x api.Type) {
	for _, l := range [][]api.Field{x.Own[:cap(x.Own)], x.All[:cap(x.All)]} {
		for i := range l {
			l[i] = api.Field{Name: "spoilt"}
		}
	}
	for i := range x.Chain[:cap(x.Chain)] {
		x.Chain[:cap(x.Chain)][i] = "spoilt"
	}
}

func spoilAll(l []api.Type) {
	for i := range l {
		spoil(l[i])
		l[i] = api.Type{Name: "spoilt"}
	}
}

var wrongIDs = []api.ID{
	{},
	{Node: 0, Life: 1, Seq: 1},
	{Node: api.MaxNode + 1, Life: 1, Seq: 1},
	{Node: -1, Life: 1, Seq: 1},
	{Node: 1, Life: 0, Seq: 1},
	{Node: 1, Life: -1, Seq: 1},
	{Node: 1, Life: api.MaxCount + 1, Seq: 1},
	{Node: 1, Life: 1, Seq: 0},
	{Node: 1, Life: 1, Seq: -1},
	{Node: 1, Life: 1, Seq: api.MaxCount + 1},
	{Node: math.MaxInt, Life: math.MaxInt, Seq: math.MaxInt},
	{Node: math.MinInt, Life: math.MinInt, Seq: math.MinInt},
}

// Promise 5.1: IsID.
func TestIsID(t *testing.T) {
	for _, x := range []api.ID{
		by(1),
		{Node: 2, Life: 3, Seq: 4},
		{Node: api.MaxNode, Life: 1, Seq: 1},
		{Node: 1, Life: api.MaxCount, Seq: 1},
		{Node: 1, Life: 1, Seq: api.MaxCount},
	} {
		if !IsID(x) {
			t.Errorf("IsID(%v): it may be", x)
		}
	}
	for _, x := range wrongIDs {
		if IsID(x) {
			t.Errorf("IsID(%v): it may not be", x)
		}
	}
}

// Promise 5.1: Order.
func TestOrder(t *testing.T) {
	rising := []api.ID{
		{Node: math.MinInt, Life: math.MaxInt, Seq: math.MaxInt},
		{},
		{Node: 1, Life: 1, Seq: 1},
		{Node: 1, Life: 1, Seq: 2},
		{Node: 1, Life: 2, Seq: 1},
		{Node: 1, Life: 2, Seq: math.MaxInt},
		{Node: 2, Life: 1, Seq: 1},
		{Node: math.MaxInt, Life: math.MinInt},
	}
	for i, a := range rising {
		for j, b := range rising {
			if got, want := Order(a, b), min(1, max(-1, i-j)); got != want {
				t.Errorf("Order(%v, %v): %d", a, b, got)
			}
		}
	}
}

// goodTypes: types that may be.
func goodTypes() []api.Type {
	deep := line(api.MaxDepth)
	wide := typed("-", "-", "wide")
	for i := range api.MaxFields {
		wide.Own = append(wide.Own, api.Field{Name: "f" + strconv.Itoa(10+i), Kind: api.KindInt})
	}
	wide.All = slices.Clone(wide.Own)
	return append(family(), deep[len(deep)-1], wide,
		// Own is within All, though its name is written otherwise there.
		typed("A int", "a int, b text!", "x", "y"),
		typed("a int", "a int", "x", "y"),
		typed("-", "a int", "x", "y.z"),
		api.Type{Name: "e", Own: []api.Field{}, Chain: []string{"e"}, By: api.ID{Node: api.MaxNode, Life: api.MaxCount, Seq: api.MaxCount}},
		typed("-", "-", strings.Repeat("é", api.MaxName)),
	)
}

// wrongTypes: types that may not be.
func wrongTypes() []api.Type {
	change := func(x api.Type, do func(*api.Type)) api.Type {
		x = copied(x)
		do(&x)
		return x
	}
	deep := line(api.MaxDepth + 1)
	out := []api.Type{
		{},
		deep[len(deep)-1],
		change(news, func(x *api.Type) { x.Name = "news" }),
		change(news, func(x *api.Type) { x.Name = "" }),
		change(news, func(x *api.Type) { x.Chain = nil }),
		change(news, func(x *api.Type) { x.Chain = []string{"Other"} }),
		change(news, func(x *api.Type) { x.Parent = "News" }),
		change(news, func(x *api.Type) { x.Parent = "x" }),
		change(news, func(x *api.Type) { x.All = nil }),
		change(news, func(x *api.Type) { x.Own = nil }),
		change(news, func(x *api.Type) { x.All = fields("TITLE text!") }),
		change(news, func(x *api.Type) { x.All = fields("title text") }),
		change(news, func(x *api.Type) { x.All = fields("title int!") }),
		change(news, func(x *api.Type) { x.All = fields("a int, title text!") }),
		change(sport, func(x *api.Type) { x.Parent = "" }),
		change(sport, func(x *api.Type) { x.Parent = "news" }),
		change(sport, func(x *api.Type) { x.Parent = "x" }),
		change(sport, func(x *api.Type) { x.All = fields("title text!") }),
		change(sport, func(x *api.Type) { x.All = fields("score text, title text!") }),
		change(sport, func(x *api.Type) { x.All = fields("score int!, title text!") }),
		change(golf, func(x *api.Type) { x.Parent = "News" }),
		typed("-", "-", "a", "b", "A"),
		typed("-", "-", "a", "A"),
		typed("-", "-", "a", "b", "c", "b"),
		typed("-", "-", "É", "b", "é"),
		typed("-", "-", "a", ""),
		typed("-", "-", "a", "b", "1"),
		typed("-", "-", "a..b"),
		typed("-", "-", "1"),
		typed("-", "-", "\xff"),
		typed("-", "-", strings.Repeat("a", api.MaxName+1)),
		change(sport, func(x *api.Type) { slices.Reverse(x.All) }),
		change(art, func(x *api.Type) { slices.Reverse(x.Own) }),
		change(other, func(x *api.Type) { x.Own = []api.Field{{Name: "a.b", Kind: 1}}; x.All = x.Own }),
		change(golf, func(x *api.Type) { x.All = []api.Field{{Name: "a"}} }),
	}
	for _, id := range wrongIDs {
		out = append(out, change(golf, func(x *api.Type) { x.By = id }))
	}
	return out
}

// Promise 5.1: Check.
func TestCheck(t *testing.T) {
	for i, x := range goodTypes() {
		if !Check(x) {
			t.Errorf("Check of %d, %v: it may be", i, x)
		}
	}
	for i, x := range wrongTypes() {
		if Check(x) {
			t.Errorf("Check of %d, %v: it may not be", i, x)
		}
	}
	many := make([]string, 100000)
	for i := range many {
		many[i] = "a" + strconv.Itoa(i)
	}
	if Check(typed("-", "-", many...)) {
		t.Errorf("Check of a chain of %d", len(many))
	}
}

// wrongForests: types that are no forest.
func wrongForests() [][]api.Type {
	l := family()
	out := [][]api.Type{
		roots(api.MaxTypes + 1),
		{news, art},   // they do not rise
		{sport, news}, // nor do these
		{news, news},  // one name
		{typed("-", "-", "NEWS"), news},
		without(l, 2), // a parent is not there
		without(l, 3),
		{golf, news},
		{art, typed("-", "-", "Golf")},
		with(l, 2, typed("Title text!", "Title text!", "News")), // merged, All is written otherwise
		with(l, 2, typed("title text", "title text", "News")),
		with(l, 2, typed("-", "-", "News")),
		with(l, 2, typed("b int, title text!", "b int, title text!", "News")),
		with(l, 2, typed("score int", "score int", "News")),                                     // a clash
		with(l, 2, typed("title text!", "title text!", "NEWS")),                                 // another chain
		with(l, 1, made(typed("-", "score int, title text!", "Golf", "NEWS.Sport", "News"), 3)), // Parent is written otherwise
		with(l, 1, made(typed("-", "score int, title text!", "Golf", "News.Sport"), 3)),
		with(l, 1, made(typed("-", "score int, title text!", "Golf", "News.Sport", "art"), 3)),
		with(l, 1, made(typed("-", "score int, title text!", "Golf", "News.Sport", "News", "art"), 3)),
		with(l, 1, made(typed("-", "title text!", "Golf", "News.Sport", "News"), 3)),
		with(l, 1, made(typed("x int", "score int, title text!, x text", "Golf", "News.Sport", "News"), 3)),
		{made(typed("-", "-", "a", "b"), 1), made(typed("-", "-", "b", "a"), 2)}, // in a ring
	}
	for _, x := range wrongTypes() {
		out = append(out, []api.Type{x})
	}
	return out
}

// Promise 5.1: Is.
func TestIs(t *testing.T) {
	for i, l := range [][]api.Type{
		nil, {}, {news}, {news, sport}, {golf, news, sport}, family(), without(family(), 0), without(family(), 4),
		roots(api.MaxTypes), line(api.MaxDepth),
		{made(typed("A int", "A int, b text", "X", "y"), 1), typed("b text", "b text", "y")},
	} {
		if !Is(l) {
			t.Errorf("Is of %d: it is a forest", i)
		}
	}
	for i, l := range wrongForests() {
		if Is(l) {
			t.Errorf("Is of %d, %v: it is none", i, l)
		}
	}
}

// Promise 5.1: Find.
func TestFind(t *testing.T) {
	l := family()
	for s, want := range map[string]api.Type{"News": news, "NEWS": news, "golf": golf, "ART": art, "émile": other, "news.SPORT": sport} {
		got, is := Find(l, s)
		if !is || !Same(got, want) {
			t.Errorf("Find(%q): %v, %v", s, got, is)
		}
		spoil(got)
	}
	if !sameAll(l, family()) {
		t.Errorf("Find hands out what it was given")
	}
	for _, s := range []string{"", "New", "News.", "Sport", "\xff", "title"} {
		if got, is := Find(l, s); is || !isZero(got) {
			t.Errorf("Find(%q): %v, %v", s, got, is)
		}
	}
	if _, is := Find(nil, "News"); is {
		t.Errorf("Find in nothing")
	}
	// Of any types the first one.
	odd := []api.Type{{Name: "b"}, {Name: "A", Parent: "first"}, {Name: "a"}, {}}
	if got, is := Find(odd, "a"); !is || got.Parent != "first" {
		t.Errorf("Find of what is no forest: %v", got)
	}
	if _, is := Find(odd, ""); !is {
		t.Errorf("Find of an empty name that is there")
	}
}

// Promise 5.1: Of.
func TestOf(t *testing.T) {
	for _, s := range []string{"golf", "GOLF", "news.sport", "News"} {
		if !Of(golf, s) {
			t.Errorf("Golf is not of %q", s)
		}
	}
	for _, s := range []string{"", "art", "new", "News.", "\xff"} {
		if Of(golf, s) {
			t.Errorf("Golf is of %q", s)
		}
	}
	if Of(news, "golf") || Of(news, "News.Sport") || Of(api.Type{Name: "a", Parent: "b"}, "a") || Of(api.Type{Name: "a", Parent: "b"}, "b") {
		t.Errorf("Of looks elsewhere than up the chain")
	}
	if !Of(api.Type{Chain: []string{"", "x\xff"}}, "x\xff") || !Of(api.Type{Chain: []string{""}}, "") {
		t.Errorf("Of in a type that may not be")
	}
}

// Promise 5.1: Kids.
func TestKids(t *testing.T) {
	l := family()
	for s, want := range map[string][]string{
		"NEWS": {"art", "News.Sport"}, "News": {"art", "News.Sport"}, "news.sport": {"Golf"},
		"Golf": nil, "": nil, "none": nil, "\xff": nil,
	} {
		if got := Kids(l, s); !slices.Equal(got, want) {
			t.Errorf("Kids(%q): %q", s, got)
		}
	}
	odd := []api.Type{{Name: "z", Parent: "P"}, {Name: ""}, {Name: "", Parent: "p"}, {Name: "z", Parent: "p"}, {Name: "p", Parent: "pp"}}
	if got := Kids(odd, "p"); !slices.Equal(got, []string{"z", "", "z"}) {
		t.Errorf("Kids of what is no forest: %q", got)
	}
	if Kids(nil, "a") != nil {
		t.Errorf("Kids of nothing")
	}
}

// Promise 5.1: Same.
func TestSame(t *testing.T) {
	for _, x := range append(goodTypes(), wrongTypes()...) {
		if !Same(x, copied(x)) {
			t.Errorf("%v is not the same as itself", x)
		}
	}
	if !Same(api.Type{}, api.Type{Own: []api.Field{}, All: []api.Field{}, Chain: []string{}}) {
		t.Errorf("nil and empty lists are not the same")
	}
	for i, do := range []func(x *api.Type){
		func(x *api.Type) { x.Name = "golf" },
		func(x *api.Type) { x.Parent = "news.sport" },
		func(x *api.Type) { x.Own = fields("a int") },
		func(x *api.Type) { x.All = x.All[:1] },
		func(x *api.Type) { x.All[0].Must = true },
		func(x *api.Type) { x.All[0].Kind = api.KindBool },
		func(x *api.Type) { x.All[0].Name = "Score" },
		func(x *api.Type) { x.Chain[0] = "golf" },
		func(x *api.Type) { x.Chain = x.Chain[:2] },
		func(x *api.Type) { x.By.Node++ },
		func(x *api.Type) { x.By.Life++ },
		func(x *api.Type) { x.By.Seq++ },
	} {
		x := copied(golf)
		do(&x)
		if Same(x, golf) || Same(golf, x) {
			t.Errorf("Same of two that are not, %d", i)
		}
	}
}

// Promise 5.2: Root.
func TestRoot(t *testing.T) {
	own := fields("a int, title text!")
	got, e := Root("News", own, by(7))
	if e != api.OK || !Same(got, made(typed("a int, title text!", "a int, title text!", "News"), 7)) || !Check(got) {
		t.Errorf("Root: %v, %v", got, e)
	}
	got.Own[0].Name = "spoilt"
	if got.All[0].Name != "a" || own[0].Name != "a" {
		t.Errorf("Root's lists share memory")
	}
	got.All[1].Name = "spoilt"
	if own[1].Name != "title" {
		t.Errorf("Root hands out what it was given")
	}
	bad := []api.Field{{Name: "b", Kind: 1}, {Name: "a", Kind: 1}}
	for _, c := range []struct {
		s    string
		own  []api.Field
		by   api.ID
		want api.Errno
	}{
		{"a", nil, by(1), api.OK},
		{"a", []api.Field{}, by(1), api.OK},
		{"", nil, by(1), api.ErrForm},
		{"1", bad, by(0), api.ErrForm},
		{"a.b.c.d.e.f", bad, by(0), api.ErrLong},
		{strings.Repeat("a", api.MaxName+1), nil, by(1), api.ErrLong},
		{"a", bad, by(1), api.ErrArg},
		{"a", nil, by(0), api.ErrArg},
		{"a", nil, api.ID{Node: 16, Life: 1, Seq: 1}, api.ErrArg},
		{"a", []api.Field{{Name: "x.y", Kind: 1}}, by(1), api.ErrArg},
	} {
		got, e := Root(c.s, c.own, c.by)
		if e != c.want || (e != api.OK) != isZero(got) {
			t.Errorf("Root(%q, %v, %v): %v, %v", c.s, c.own, c.by, got, e)
		}
	}
}

// Promise 5.2: Below.
func TestBelow(t *testing.T) {
	of, own := copied(sport), fields("A int, z bool!")
	got, e := Below(of, "x.y", own, by(9))
	want := made(typed("A int, z bool!", "A int, score int, title text!, z bool!", "x.y", "News.Sport", "News"), 9)
	if e != api.OK || !Same(got, want) || !Check(got) {
		t.Errorf("Below: %v, %v", got, e)
	}
	spoil(got)
	if !Same(of, sport) || own[0].Name != "A" || own[1].Name != "z" {
		t.Errorf("Below hands out what it was given")
	}
	got, _ = Below(of, "x", fields("z int"), by(9))
	if got.Own[0].Name = "spoilt"; got.All[2].Name != "z" {
		t.Errorf("Below's lists share memory")
	}
	deep, wide := line(api.MaxDepth), typed("-", "-", "wide")
	for i := range api.MaxFields {
		wide.Own = append(wide.Own, api.Field{Name: "f" + strconv.Itoa(10+i), Kind: api.KindInt})
	}
	wide.All = wide.Own
	bad := []api.Field{{Name: "b"}}
	for i, c := range []struct {
		of   api.Type
		s    string
		own  []api.Field
		by   api.ID
		want api.Errno
	}{
		{golf, "x", nil, by(1), api.OK},
		{golf, "Art", nil, golf.By, api.OK},
		{golf, "Title", nil, by(1), api.OK},
		{deep[api.MaxDepth-2], "x", nil, by(1), api.OK},
		{wide, "x", nil, by(1), api.OK},
		{api.Type{}, "1", bad, by(0), api.ErrForm},
		{api.Type{}, "a.b.c.d.e.f", bad, by(0), api.ErrLong},
		{api.Type{}, "a", nil, by(1), api.ErrArg},
		{made(golf, 0), "golf", nil, by(1), api.ErrArg},
		{golf, "golf", bad, by(1), api.ErrArg},
		{golf, "golf", nil, by(0), api.ErrArg},
		{golf, "GOLF", fields("title int"), by(1), api.ErrThere},
		{golf, "news.sport", nil, by(1), api.ErrThere},
		{golf, "news", nil, by(1), api.ErrThere},
		{deep[api.MaxDepth-1], "D0", nil, by(1), api.ErrThere},
		{deep[api.MaxDepth-1], "x", nil, by(1), api.ErrLong},
		{golf, "x", fields("title int"), by(1), api.ErrClash},
		{golf, "x", fields("TITLE text!"), by(1), api.ErrClash},
		{wide, "x", fields("F10 int"), by(1), api.ErrClash},
		{wide, "x", fields("a int"), by(1), api.ErrLong},
	} {
		got, e := Below(c.of, c.s, c.own, c.by)
		if e != c.want || (e != api.OK) != isZero(got) {
			t.Errorf("Below %d, of %q: %v, %v", i, c.s, got, e)
		}
	}
	// That it is too deep is told ahead of what the fields are.
	deep[api.MaxDepth-1].All = fields("a int")
	if _, e := Below(deep[api.MaxDepth-1], "x", fields("a int"), by(1)); e != api.ErrLong {
		t.Errorf("Below of the deepest one, with a clash: %v", e)
	}
}

// Promise 5.2: Make.
func TestMake(t *testing.T) {
	l := family()
	got, e := Make(l, "Quiz", "NEWS.sport", fields("q int"), by(9))
	if e != api.OK || !Same(got, made(typed("q int", "q int, score int, title text!", "Quiz", "News.Sport", "News"), 9)) {
		t.Errorf("Make below: %v, %v", got, e)
	}
	spoil(got)
	if !sameAll(l, family()) {
		t.Errorf("Make changes the forest, or hands it out")
	}
	got, e = Make(l, "Quiz", "", fields("q int"), by(9))
	if e != api.OK || !Same(got, made(typed("q int", "q int", "Quiz"), 9)) {
		t.Errorf("Make of a root: %v, %v", got, e)
	}
	bad := []api.Field{{Name: "b"}}
	deep := line(api.MaxDepth)
	for i, c := range []struct {
		l         []api.Type
		s, parent string
		own       []api.Field
		by        api.ID
		want      api.Errno
	}{
		{nil, "x", "", nil, by(1), api.OK},
		{roots(api.MaxTypes), "x", "r1000", nil, by(1), api.OK}, // that there is no room is for Add
		{[]api.Type{sport}, "1", "none", bad, by(0), api.ErrArg},
		{roots(api.MaxTypes + 1), "x", "", nil, by(1), api.ErrArg},
		{l, "1", "none", bad, by(0), api.ErrForm},
		{l, "", "none", bad, by(0), api.ErrForm},
		{l, "a.b.c.d.e.f", "none", bad, by(0), api.ErrLong},
		{l, "NEWS", "", nil, by(1), api.ErrThere},
		{l, "NEWS", "none", bad, by(0), api.ErrThere},
		{l, "ÉMILE", "News", nil, by(1), api.ErrThere},
		{l, "x", "none", bad, by(0), api.ErrNone},
		{l, "x", "x", nil, by(1), api.ErrNone},
		{l, "x", "\xff", nil, by(1), api.ErrNone},
		{l, "x", " ", nil, by(1), api.ErrNone},
		{nil, "x", "News", nil, by(1), api.ErrNone},
		{l, "x", "", bad, by(1), api.ErrArg},
		{l, "x", "", nil, by(0), api.ErrArg},
		{l, "x", "News", bad, by(1), api.ErrArg},
		{l, "x", "News", nil, by(0), api.ErrArg},
		{l, "x", "Golf", fields("title int"), by(1), api.ErrClash},
		{deep, "x", "D7", nil, by(1), api.ErrLong},
		{deep, "x", "D6", nil, by(1), api.OK},
	} {
		got, e := Make(c.l, c.s, c.parent, c.own, c.by)
		if e != c.want || (e != api.OK) != isZero(got) {
			t.Errorf("Make %d, of %q below %q: %v, %v", i, c.s, c.parent, got, e)
		}
	}
}

// Promise 5.3: Add.
func TestAdd(t *testing.T) {
	for i, x := range family() {
		rest := without(family(), i)
		if !Is(rest) {
			continue
		}
		before, add := allCopied(rest), copied(x)
		got, e := Add(rest, add)
		if e != api.OK || !sameAll(got, family()) {
			t.Errorf("Add of %q: %v, %v", x.Name, got, e)
		}
		spoilAll(got)
		if !sameAll(rest, before) || !Same(add, x) {
			t.Errorf("Add hands out what it was given")
		}
	}
	l, full := family(), roots(api.MaxTypes)
	for i, c := range []struct {
		l    []api.Type
		t    api.Type
		want api.Errno
	}{
		{nil, news, api.OK},
		{full[:api.MaxTypes-1], news, api.OK},
		{[]api.Type{sport}, golf, api.ErrArg},
		{l, api.Type{}, api.ErrArg},
		{l, made(news, 0), api.ErrArg},
		{roots(api.MaxTypes + 1), news, api.ErrArg},
		{l, news, api.ErrThere},
		{l, typed("-", "-", "émile", "none"), api.ErrThere},
		{full, typed("-", "-", "R1000"), api.ErrThere},
		{full, news, api.ErrFull},
		{full, typed("-", "-", "x", "none"), api.ErrFull},
		{full, typed("-", "-", "x", "r1000"), api.ErrFull},
		{l, typed("-", "-", "x", "none"), api.ErrNone},
		{nil, sport, api.ErrNone},
		{[]api.Type{news}, golf, api.ErrNone},
		{l, typed("-", "title text!", "x", "News"), api.OK},
		{l, typed("-", "title text!", "x", "NEWS"), api.ErrForm},
		{l, typed("-", "title text", "x", "News"), api.ErrForm},
		{l, typed("-", "-", "x", "News"), api.ErrForm},
		{l, typed("a int", "a int, title text!, z int", "x", "News"), api.ErrForm},
		{l, typed("title text!", "title text!", "x", "News"), api.ErrForm},
		{l, typed("-", "score int, title text!", "x", "Golf", "News"), api.ErrForm},
		{l, typed("-", "score int, title text!", "x", "Golf", "News.Sport", "News"), api.OK},
		{l, typed("-", "score int, title text!", "x", "Golf"), api.ErrForm},
		{l, typed("A int", "a int, title text!", "x", "News"), api.ErrForm},
	} {
		got, e := Add(c.l, c.t)
		if e != c.want || e == api.OK && !Is(got) || e != api.OK && got != nil {
			t.Errorf("Add %d, of %q: %v, %v", i, c.t.Name, got, e)
		}
	}
}

// Promise 5.3: Join.
func TestJoin(t *testing.T) {
	l := family()
	late, early := made(sport, 9), made(sport, 1)
	sameBy := made(typed("score bool", "score bool, title text!", "News.Sport", "News"), 2)
	for i, c := range []struct {
		a, b, want []api.Type
	}{
		{nil, nil, nil},
		{l, nil, l},
		{nil, l, l},
		{l, l, l},
		{l[2:3], l, l},
		{l[:0], l[4:], l[4:]},
		{[]api.Type{art, news}, []api.Type{golf, news, sport, other}, l},
		{l, with(l, 3, late), l},
		{with(l, 3, late), l, l},
		{l, with(l, 3, early), with(l, 3, early)},
		{with(l, 3, early), l, with(l, 3, early)},
		{[]api.Type{news, sport}, []api.Type{news, sameBy}, []api.Type{news, sport}},
		{[]api.Type{news, sameBy}, []api.Type{news, sport}, []api.Type{news, sameBy}},
		{roots(api.MaxTypes), roots(api.MaxTypes), roots(api.MaxTypes)},
		{roots(api.MaxTypes - 1), []api.Type{news}, append([]api.Type{news}, roots(api.MaxTypes-1)...)},
	} {
		a, b := allCopied(c.a), allCopied(c.b)
		got, e := Join(a, b)
		if e != api.OK || !sameAll(got, c.want) {
			t.Errorf("Join %d: %v, %v", i, got, e)
		}
		spoilAll(got)
		if !sameAll(a, c.a) || !sameAll(b, c.b) {
			t.Errorf("Join %d hands out what it was given", i)
		}
	}
	root := made(typed("-", "-", "Golf"), 1)
	for i, c := range []struct {
		a, b []api.Type
		want api.Errno
	}{
		{[]api.Type{sport}, nil, api.ErrArg},
		{nil, []api.Type{sport}, api.ErrArg},
		{roots(api.MaxTypes + 1), nil, api.ErrArg},
		{roots(api.MaxTypes), []api.Type{news}, api.ErrClash},
		{[]api.Type{news}, roots(api.MaxTypes), api.ErrClash},
		// The one that was made ahead is not the one that others are below.
		{l, []api.Type{made(typed("-", "-", "News"), 1)}, api.OK}, // of one By, a's
		{[]api.Type{made(typed("-", "-", "News"), 1)}, l, api.ErrClash},
		{with(l, 2, made(news, 8)), []api.Type{made(typed("title text!", "title text!", "NEWS"), 7)}, api.ErrClash},
		{[]api.Type{news, sport}, []api.Type{root}, api.OK},
		{append([]api.Type{typed("-", "-", "x", "Golf")}, root), nil, api.ErrArg},
		{[]api.Type{root, typed("-", "-", "x", "Golf")}, l, api.OK},
		{[]api.Type{made(root, 8), made(typed("-", "-", "x", "Golf"), 1)}, l, api.ErrClash},
	} {
		got, e := Join(c.a, c.b)
		if e != c.want || e != api.OK && got != nil {
			t.Errorf("Join %d: %v, %v", i, got, e)
		}
	}
}

// Promise 5.4.
func TestFits(t *testing.T) {
	word := func(s string) api.Attr { return api.Attr{Name: s, V: api.Value{Kind: api.KindText, S: "x"}} }
	number := func(s string) api.Attr { return api.Attr{Name: s, V: api.Value{Kind: api.KindInt, N: 1}} }
	for i, c := range []struct {
		t     api.Type
		of    string
		attrs []api.Attr
		want  api.Errno
	}{
		{golf, "Golf", []api.Attr{word("title")}, api.OK},
		{golf, "GOLF", []api.Attr{number("Score"), word("TITLE")}, api.OK},
		{other, "émile", nil, api.OK},
		{made(golf, 0), "x", nil, api.ErrArg},
		{api.Type{}, "", nil, api.ErrArg},
		{golf, "News", []api.Attr{word("title")}, api.ErrNone},
		{golf, "", []api.Attr{word("b"), word("a")}, api.ErrNone},
		{golf, "Golf.x", []api.Attr{word("title")}, api.ErrNone},
		{golf, "golf", []api.Attr{word("title"), number("score")}, api.ErrArg},
		{golf, "golf", []api.Attr{word("a"), number("title")}, api.ErrNone},
		{golf, "golf", []api.Attr{word("score")}, api.ErrKind},
		{golf, "golf", []api.Attr{number("score")}, api.ErrShort},
		{golf, "golf", nil, api.ErrShort},
	} {
		// Neither the identity of an event is asked, nor whether it may be.
		if e := Fits(c.t, api.Event{Type: c.of, Attrs: c.attrs}); e != c.want {
			t.Errorf("Fits %d: %v", i, e)
		}
	}
}

const sportBytes = "\x0aNews.Sport\x04News" + "\x01\x05score\x01\x00" + "\x02\x05score\x01\x00\x05title\x02\x01" + "\x02\x0aNews.Sport\x04News" + "\x01\x01\x02"
const newsBytes = "\x04News\x00" + "\x01\x05title\x02\x01" + "\x01\x05title\x02\x01" + "\x01\x04News" + "\x01\x01\x01"

// Promise 5.5: Text, Read.
func TestTextAndRead(t *testing.T) {
	if got := Text(sport); got != sportBytes {
		t.Errorf("Text: %q", got)
	}
	if got := Text(news); got != newsBytes {
		t.Errorf("Text: %q", got)
	}
	for _, x := range goodTypes() {
		s := Text(x)
		for _, behind := range []string{"", "q", s} {
			got, rest, e := Read(s + behind)
			if e != api.OK || rest != behind || !Same(got, x) {
				t.Errorf("Read of %v: %v, %q, %v", x, got, rest, e)
			}
		}
		for i := range len(s) {
			if got, rest, e := Read(s[:i]); e != api.ErrShort || rest != "" || !isZero(got) {
				t.Fatalf("Read of the first %d bytes of %q: %v, %q, %v", i, s, got, rest, e)
			}
		}
	}
	for i, x := range wrongTypes() {
		if got := Text(x); got != "" {
			t.Errorf("Text of %d, that may not be: %q", i, got)
		}
	}
}

// raw: the bytes of a type, whether it may be or not.
func raw(x api.Type) string {
	titles, _ := quic.Put([]api.Item{{Kind: api.ItemText, S: x.Name}, {Kind: api.ItemText, S: x.Parent}})
	chain, _ := quic.List(x.Chain)
	return titles + rawFields(x.Own) + rawFields(x.All) + chain + quic.Num(x.By.Node) + quic.Num(x.By.Life) + quic.Num(x.By.Seq)
}

func rawFields(l []api.Field) string {
	out := quic.Num(len(l))
	for _, x := range l {
		must := 0
		if x.Must {
			must = 1
		}
		s, _ := quic.Put([]api.Item{{Kind: api.ItemText, S: x.Name}, {Kind: api.ItemNum, N: x.Kind}, {Kind: api.ItemFlag, N: must}})
		out += s
	}
	return out
}

// Promise 5.5: what Read answers of bytes that are no type's.
func TestReadOfWrongBytes(t *testing.T) {
	if raw(sport) != sportBytes {
		t.Fatalf("raw bytes: %q", raw(sport))
	}
	for i, x := range wrongTypes() {
		if x.By.Node < 0 || x.By.Life < 0 || x.By.Seq < 0 || x.By.Seq > api.MaxNum {
			continue // no bytes say so
		}
		if got, rest, e := Read(raw(x) + "q"); e != api.ErrForm || rest != "" || !isZero(got) {
			t.Errorf("Read of %d, %v, that may not be: %v, %q, %v", i, x, got, rest, e)
		}
	}
	none := rawFields(nil)
	for i, c := range []struct {
		s    string
		want api.Errno
	}{
		{"", api.ErrShort},
		{"\x40\x01a", api.ErrForm},
		{"\x01a\x40\x00", api.ErrForm},
		{"\x80\x01\x00\x01", api.ErrLong}, // a text that is too long
		{"\x01a\x00" + rawFields([]api.Field{{Name: "a"}}), api.ErrForm},
		{"\x01a\x00" + rawFields([]api.Field{{Name: "a"}})[:3], api.ErrShort},
		{"\x01a\x00" + "\x01\x01a\x01\x02", api.ErrForm}, // a flag that is none
		{"\x01a\x00" + none + strings.Repeat("\x19", 1) + strings.Repeat("\x01a\x01\x00", 25), api.ErrLong},
		{"\x01a\x00" + none + none + quic.Num(api.MaxItems+1), api.ErrLong},
		{"\x01a\x00" + none + none + quic.Num(api.MaxItems), api.ErrShort},
		{"\x01a\x00" + none + none + "\x01\x80\x01\x00\x01", api.ErrLong},
		{"\x01a\x00" + none + none + "\x01\x01a\x01\x01\x40\x01", api.ErrForm},
		{"\x01a\x00" + none + none + "\x01\x01a\x01\x01", api.ErrShort},
		// An error further on comes ahead of that it may not be.
		{"\x011\x00" + none + none + "\x00\x00\x00", api.ErrShort},
		{"\x00\x00" + none + none + "\x00\x00\x00\x00", api.ErrForm},
	} {
		if got, rest, e := Read(c.s); e != c.want || rest != "" || !isZero(got) {
			t.Errorf("Read %d, of %q: %v, %q, %v", i, c.s, got, rest, e)
		}
	}
}

// Promise 5.5: Texts, Reads.
func TestTextsAndReads(t *testing.T) {
	if got := Texts([]api.Type{news, sport}); got != "\x02"+newsBytes+sportBytes {
		t.Errorf("Texts: %q", got)
	}
	if got := Texts(nil); got != "\x00" {
		t.Errorf("Texts of nothing: %q", got)
	}
	for i, l := range [][]api.Type{nil, {news}, family(), roots(api.MaxTypes), line(api.MaxDepth)} {
		s := Texts(l)
		if got, e := Reads(s); e != api.OK || !sameAll(got, l) {
			t.Errorf("Reads %d: %v, %v", i, got, e)
		}
		if got, e := Reads(s + "\x00"); e != api.ErrLong || got != nil {
			t.Errorf("Reads %d with something behind: %v, %v", i, got, e)
		}
		for n := range min(len(s), 400) {
			if got, e := Reads(s[:n]); e != api.ErrShort || got != nil {
				t.Fatalf("Reads of the first %d bytes of %d: %v, %v", n, i, got, e)
			}
		}
	}
	for i, l := range wrongForests() {
		if got := Texts(l); got != "" {
			t.Errorf("Texts of %d, that is no forest: %q", i, got)
		}
	}
}

// rawAll: the bytes of types, whether they are a forest or not.
func rawAll(l []api.Type) string {
	out := quic.Num(len(l))
	for _, x := range l {
		out += raw(x)
	}
	return out
}

// Promise 5.5: what Reads answers of bytes that are no forest's.
func TestReadsOfWrongBytes(t *testing.T) {
	for i, l := range wrongForests() {
		want := api.ErrForm
		if len(l) > api.MaxTypes {
			want = api.ErrLong
		}
		if len(l) == 1 && !IsID(l[0].By) {
			continue
		}
		if got, e := Reads(rawAll(l)); e != want || got != nil {
			t.Errorf("Reads of %d, %v: %v, %v", i, l, got, e)
		}
	}
	many := rawAll(roots(api.MaxTypes + 1))
	twice := rawAll([]api.Type{news, news})
	for i, c := range []struct {
		s    string
		want api.Errno
	}{
		{"", api.ErrShort},
		{"\x40\x00", api.ErrForm},
		{"\x00\x00", api.ErrLong},
		{many, api.ErrLong},
		{many + "q", api.ErrLong},
		{many[:len(many)-1], api.ErrShort}, // an error of a type comes ahead of that of too many
		{quic.Num(api.MaxTypes + 1), api.ErrShort},
		{quic.Num(api.MaxNum), api.ErrShort},
		{quic.Num(api.MaxTypes+1) + raw(made(news, 0)), api.ErrForm},
		{twice, api.ErrForm},
		{twice + "q", api.ErrLong}, // and that something stands behind, ahead of that it is none
		{"\x02" + newsBytes + raw(made(sport, 0)), api.ErrForm},
		{"\x02" + newsBytes + "\x40\x01", api.ErrForm},
	} {
		if got, e := Reads(c.s); e != c.want || got != nil {
			t.Errorf("Reads %d: %v, %v", i, got, e)
		}
	}
}

// someForest: a forest that chance makes, with its types in the order in which they were made.
func someForest(r *rand.Rand, count int) (l, made []api.Type) {
	for i := range count {
		parent := ""
		if len(l) > 0 && r.Intn(4) > 0 {
			parent = name.Fold(l[r.Intn(len(l))].Name)
		}
		var own []api.Field
		for k := range r.Intn(3) {
			own = append(own, api.Field{Name: "f" + strconv.Itoa(2*(100+r.Intn(400))+k), Kind: api.KindInt + r.Intn(4), Must: r.Intn(3) == 0})
		}
		own, e := schema.Sort(own)
		if e != api.OK {
			continue
		}
		s := string(rune('A'+r.Intn(26))) + string(rune('a'+r.Intn(26)))
		x, e := Make(l, s, parent, own, api.ID{Node: 1 + r.Intn(3), Life: 1 + r.Intn(2), Seq: i + 1})
		if e != api.OK {
			continue
		}
		m, e := Add(l, x)
		if e != api.OK || !Is(m) || len(m) != len(l)+1 {
			panic("what was made can't be added")
		}
		l, made = m, append(made, x)
	}
	return l, made
}

// part: some types of a forest, with those that they are below.
func part(r *rand.Rand, made []api.Type) (l []api.Type) {
	for _, x := range made {
		if more, e := Add(l, x); e == api.OK && r.Intn(3) > 0 {
			l = more
		}
	}
	return l
}

// Promise 5.6: what follows of forests, and of what is made.
func TestWhatFollows(t *testing.T) {
	r := rand.New(rand.NewSource(5))
	for range 60 {
		l, made := someForest(r, 30)
		if got, e := Join(l, l); e != api.OK || !sameAll(got, l) {
			t.Fatalf("a join of a forest with itself: %v, %v", got, e)
		}
		a, b := part(r, made), part(r, made)
		ab, e := Join(a, b)
		ba, f := Join(b, a)
		if e != api.OK || f != api.OK || !sameAll(ab, ba) || !Is(ab) {
			t.Fatalf("joins of parts: %v, %v", e, f)
		}
		for _, x := range l {
			for _, y := range l {
				for _, z := range l {
					if Of(x, y.Name) && Of(y, z.Name) && !Of(x, z.Name) {
						t.Fatalf("%q is of %q, that of %q", x.Name, y.Name, z.Name)
					}
				}
			}
		}
		if got, e := Reads(Texts(l)); e != api.OK || !sameAll(got, l) {
			t.Fatalf("what is written is not read: %v", e)
		}
	}
}

// Promise 5.6: what fits a type fits those it is of, if it has no more than their fields.
func TestWhatFitsFitsAbove(t *testing.T) {
	r := rand.New(rand.NewSource(6))
	fit := 0
	for range 60 {
		l, _ := someForest(r, 30)
		for _, x := range l {
			for _, up := range x.Chain {
				of, _ := Find(l, up)
				ev := api.Event{Type: x.Name}
				for _, f := range x.All {
					_, above := schema.Find(of.All, f.Name)
					if above && (f.Must || r.Intn(2) == 0) {
						ev.Attrs = append(ev.Attrs, api.Attr{Name: f.Name, V: api.Value{Kind: f.Kind}})
					}
				}
				if Fits(x, ev) != api.OK {
					continue
				}
				fit++
				ev.Type = up
				if e := Fits(of, ev); e != api.OK {
					t.Fatalf("%v fits %q, not %q: %v", ev, x.Name, up, e)
				}
			}
		}
	}
	if fit < 100 {
		t.Errorf("only %d fit", fit)
	}
}

// Rule R1, and promise 5.6: any bytes are answered, and what is read is written so.
func FuzzRead(f *testing.F) {
	f.Add(newsBytes)
	f.Add(sportBytes + "q")
	f.Add("\x02" + newsBytes + sportBytes)
	f.Fuzz(func(t *testing.T, s string) {
		x, rest, e := Read(s)
		if e == api.OK && Text(x)+rest != s || e != api.OK && (rest != "" || !isZero(x)) {
			t.Errorf("Read(%q): %v, %q, %v", s, x, rest, e)
		}
		l, e := Reads(s)
		if e == api.OK && Texts(l) != s || e != api.OK && l != nil {
			t.Errorf("Reads(%q): %v, %v", s, l, e)
		}
	})
}
