package event

import (
	"math"
	"math/rand"
	"slices"
	"strconv"
	"strings"
	"testing"

	"caduceus/api"
	"caduceus/forest"
	"caduceus/quic"
	"caduceus/schema"
	"caduceus/value"
)

func integer(n int) api.Value { return api.Value{Kind: api.KindInt, N: n} }
func text(s string) api.Value { return api.Value{Kind: api.KindText, S: s} }
func truth(n int) api.Value   { return api.Value{Kind: api.KindBool, N: n} }
func bytes(s string) api.Value {
	return api.Value{Kind: api.KindBytes, S: s}
}

func attr(title string, v api.Value) api.Attr { return api.Attr{Name: title, V: v} }

func id(node, life, seq int) api.ID { return api.ID{Node: node, Life: life, Seq: seq} }

// many: that many attributes, by names that rise.
func many(count int) (l []api.Attr) {
	for i := range count {
		l = append(l, attr("a"+strconv.Itoa(10+i), integer(i)))
	}
	return l
}

// lines: events, by their lines.
func lines() map[string]api.Event {
	long := strings.Repeat("é", api.MaxName)
	out := map[string]api.Event{
		`2.1.7 News title="a b"`: {ID: id(2, 1, 7), Type: "News", Attrs: []api.Attr{attr("title", text("a b"))}},
		"1.1.1 a":                {ID: id(1, 1, 1), Type: "a"},
		"15.1099511627775.1099511627775 a.b.c.d.e":         {ID: id(api.MaxNode, api.MaxCount, api.MaxCount), Type: "a.b.c.d.e"},
		"2.1.7 News.Sport A=-5 title=\"a = \\\"b\\\"\"":    {ID: id(2, 1, 7), Type: "News.Sport", Attrs: []api.Attr{attr("A", integer(-5)), attr("title", text(`a = "b"`))}},
		"3.20.100 x a=true b=false c=x'' d=x'00ff' e=\"\"": {ID: id(3, 20, 100), Type: "x", Attrs: []api.Attr{attr("a", truth(1)), attr("b", truth(0)), attr("c", bytes("")), attr("d", bytes("\x00\xff")), attr("e", text(""))}},
		`1.2.3 x a="\n\t\u{1} b=1" é=9007199254740991`:     {ID: id(1, 2, 3), Type: "x", Attrs: []api.Attr{attr("a", text("\n\t\x01 b=1")), attr("é", integer(api.MaxInt))}},
		"1.2.3 " + long + " " + long + "=0":                {ID: id(1, 2, 3), Type: long, Attrs: []api.Attr{attr(long, integer(0))}},
	}
	full, wide := "1.1.2 x", strings.Repeat("=", api.MaxValue)
	for i, a := range many(api.MaxFields) {
		full += " " + a.Name + "=" + strconv.Itoa(i)
	}
	out[full] = api.Event{ID: id(1, 1, 2), Type: "x", Attrs: many(api.MaxFields)}
	out[`1.1.3 x a="`+wide+`"`] = api.Event{ID: id(1, 1, 3), Type: "x", Attrs: []api.Attr{attr("a", text(wide))}}
	return out
}

// wrongAttrs: lists of attributes that may not be.
var wrongAttrs = [][]api.Attr{
	{{}},
	{attr("a", api.Value{})},
	{attr("a", truth(2))},
	{attr("a", text("\xff"))},
	{attr("a", integer(api.MaxInt+1))},
	{attr("", integer(1))},
	{attr("a.b", integer(1))},
	{attr("1", integer(1))},
	{attr("b", integer(1)), attr("a", integer(1))},
	{attr("a", integer(1)), attr("A", integer(1))},
	many(api.MaxFields + 1),
}

var wrongIDs = []api.ID{
	{}, id(0, 1, 1), id(1, 0, 1), id(1, 1, 0), id(api.MaxNode+1, 1, 1), id(1, api.MaxCount+1, 1), id(1, 1, api.MaxCount+1),
	id(-1, 1, 1), id(1, -1, 1), id(1, 1, -1), id(math.MaxInt, math.MinInt, math.MaxInt),
}

// wrongEvents: events that may not be.
func wrongEvents() []api.Event {
	out := []api.Event{{}}
	for _, x := range wrongIDs {
		out = append(out, api.Event{ID: x, Type: "a"})
	}
	for _, s := range []string{"", "1", "a b", "a..b", "a.", "\xff", "a.b.c.d.e.f", strings.Repeat("a", api.MaxName+1)} {
		out = append(out, api.Event{ID: id(1, 1, 1), Type: s})
	}
	for _, l := range wrongAttrs {
		out = append(out, api.Event{ID: id(1, 1, 1), Type: "a", Attrs: l})
	}
	return out
}

func isZero(x api.Event) bool {
	return x.ID == api.ID{} && x.Type == "" && x.Attrs == nil
}

// Promise 6.1: Check.
func TestCheck(t *testing.T) {
	for s, x := range lines() {
		if !Check(x) {
			t.Errorf("%s may be", s)
		}
	}
	for i, x := range wrongEvents() {
		if Check(x) {
			t.Errorf("%d, %v, may not be", i, x)
		}
	}
}

// Promise 6.1: Same, Alike.
func TestSameAndAlike(t *testing.T) {
	x := func() api.Event {
		return api.Event{ID: id(1, 2, 3), Type: "Émile", Attrs: []api.Attr{attr("a", integer(1)), attr("É", text("x"))}}
	}
	for i, c := range []struct {
		do    func(*api.Event)
		alike bool
	}{
		{func(x *api.Event) { x.ID.Node++ }, true},
		{func(x *api.Event) { x.ID.Life++ }, true},
		{func(x *api.Event) { x.ID = api.ID{} }, true},
		{func(x *api.Event) { x.Type = "ÉMILE" }, true},
		{func(x *api.Event) { x.Attrs[1].Name = "é" }, true},
		{func(x *api.Event) { x.Type = "Emile" }, false},
		{func(x *api.Event) { x.Type = "" }, false},
		{func(x *api.Event) { x.Attrs[1].Name = "e" }, false},
		{func(x *api.Event) { x.Attrs[0].V.N = 2 }, false},
		{func(x *api.Event) { x.Attrs[0].V.Kind = api.KindBool }, false},
		{func(x *api.Event) { x.Attrs[1].V.S = "X" }, false},
		{func(x *api.Event) { x.Attrs[1].V.Kind = api.KindBytes }, false},
		{func(x *api.Event) { x.Attrs = x.Attrs[:1] }, false},
		{func(x *api.Event) { x.Attrs = x.Attrs[1:] }, false},
		{func(x *api.Event) { x.Attrs = nil }, false},
		{func(x *api.Event) { x.Attrs = append(x.Attrs, attr("z", integer(1))) }, false},
	} {
		y := x()
		c.do(&y)
		if Same(x(), y) || Same(y, x()) {
			t.Errorf("%d: Same of two that are not", i)
		}
		if Alike(x(), y) != c.alike || Alike(y, x()) != c.alike {
			t.Errorf("%d: Alike is not %v", i, c.alike)
		}
	}
	none := api.Event{ID: id(1, 1, 1), Type: "a"}
	empty := none
	empty.Attrs = []api.Attr{}
	if !Same(none, empty) || !Alike(none, empty) {
		t.Errorf("a nil list and an empty one are not the same")
	}
	for _, x := range wrongEvents() {
		if !Same(x, x) || !Alike(x, x) {
			t.Errorf("%v is not the same as itself", x)
		}
	}
}

// Promise 6.1: Show, Parse.
func TestShowAndParse(t *testing.T) {
	for s, x := range lines() {
		if got := Show(x); got != s {
			t.Errorf("Show: %q, not %q", got, s)
		}
		if got, e := Parse(s); e != api.OK || !Same(got, x) {
			t.Errorf("Parse(%q): %v, %v", s, got, e)
		}
	}
	for i, x := range wrongEvents() {
		if got := Show(x); got != "" {
			t.Errorf("Show of %d, that may not be: %q", i, got)
		}
	}
}

// Promise 6.1: Parse of what is no line.
func TestParseOfWrongLines(t *testing.T) {
	wide := strings.Repeat("a", api.MaxValue+1)
	full := Show(api.Event{ID: id(1, 1, 1), Type: "x", Attrs: many(api.MaxFields)})
	for _, s := range []string{
		"", " ", "a", "1.1.1", "1.1.1 ", " 1.1.1 a", "1.1.1  a", "1.1.1 a ", "1.1.1\ta", "1.1.1 a\n",
		"1.1 a", "1.1.1.1 a", ".1.1 a", "1..1 a", "1.1. a", "a.1.1 a", "1 1 1 a", "1,1,1 a",
		"01.1.1 a", "1.01.1 a", "1.1.01 a", "+1.1.1 a", "1.+1.1 a", "-1.1.1 a", "1.1.1_0 a", "0x1.1.1 a",
		"0.1.1 a", "1.0.1 a", "1.1.0 a", "16.1.1 a", "1.1099511627776.1 a", "1.1.1099511627776 a", "1.1.99999999999999999999 a",
		"1.1.1 1", "1.1.1 a..b", "1.1.1 a.b.c.d.e.f", "1.1.1 " + strings.Repeat("a", api.MaxName+1), "1.1.1 \xff",
		"1.1.1 a b", "1.1.1 a b=", "1.1.1 a =1", "1.1.1 a =", "1.1.1 a b==1", "1.1.1 a b =1", "1.1.1 a b= 1",
		"1.1.1 a b.c=1", "1.1.1 a 1=1", "1.1.1 a b=1 a=1", "1.1.1 a b=1 B=1", "1.1.1 a b=1 b=1", "1.1.1 a b=1  c=1", "1.1.1 a  b=1",
		"1.1.1 a b=1c=2", "1.1.1 a b=1 ", "1.1.1 a b=1,c=2", "1.1.1 a b=1 c", "1.1.1 a b=1 c=", "1.1.1 a b=\"x\"c=1", "1.1.1 a b=\"x\" \"", "1.1.1 a b=x'00'c=1",
		"1.1.1 a b=01", "1.1.1 a b=-0", "1.1.1 a b=+1", "1.1.1 a b=True", "1.1.1 a b=trues", "1.1.1 a b=x'0'", "1.1.1 a b=x'FF'", "1.1.1 a b=\"", "1.1.1 a b=\"\t\"", "1.1.1 a b='a'",
		"1.1.1 a b=9007199254740992", "1.1.1 a b=12345678901234567", // too long a literal is no line either
		`1.1.1 a b="` + wide + `"`, "1.1.1 a b=x'" + wide + wide + "'",
		full + " z=1", full + " z", full + " ", "1.1.1 x z=1" + full[len("1.1.1 x"):],
	} {
		if got, e := Parse(s); e != api.ErrForm || !isZero(got) {
			t.Errorf("Parse(%q): %v, %v", s, got, e)
		}
	}
}

// Promise 6.1: ShowID, ParseID.
func TestIDs(t *testing.T) {
	for s, x := range map[string]api.ID{
		"1.1.1":                          id(1, 1, 1),
		"2.10.300":                       id(2, 10, 300),
		"15.1099511627775.1099511627775": id(api.MaxNode, api.MaxCount, api.MaxCount),
	} {
		if got := ShowID(x); got != s {
			t.Errorf("ShowID(%v): %q", x, got)
		}
		if got, e := ParseID(s); e != api.OK || got != x {
			t.Errorf("ParseID(%q): %v, %v", s, got, e)
		}
	}
	for _, x := range wrongIDs {
		if got := ShowID(x); got != "" {
			t.Errorf("ShowID(%v): %q", x, got)
		}
	}
	for _, s := range []string{
		"", ".", "..", "1", "1.1", "1.1.", ".1.1", "1..1", "1.1.1.", "1.1.1.1", "1.1.1 ", " 1.1.1", "1.1.1\n", "a.b.c", "１.1.1",
		"01.1.1", "1.01.1", "1.1.01", "+1.1.1", "1.+1.1", "1.1.+1", "-1.1.1", "1.1.-1", "1_0.1.1", "0x1.1.1", "1e0.1.1",
		"0.1.1", "1.0.1", "1.1.0", "16.1.1", "1.1099511627776.1", "1.1.1099511627776", "18446744073709551617.1.1", "1.1." + strings.Repeat("9", 1000), "\xff.1.1",
	} {
		if got, e := ParseID(s); e != api.ErrForm || got != (api.ID{}) {
			t.Errorf("ParseID(%q): %v, %v", s, got, e)
		}
	}
}

// raw: the bytes of an event, whether it may be or not.
func raw(x api.Event) string {
	title, _ := quic.List([]string{x.Type})
	out := quic.Num(x.ID.Node) + quic.Num(x.ID.Life) + quic.Num(x.ID.Seq) + title[1:] + quic.Num(len(x.Attrs))
	for _, a := range x.Attrs {
		title, _ := quic.List([]string{a.Name})
		out += title[1:] + value.Text(a.V)
	}
	return out
}

// Promise 6.1: Text, Read.
func TestTextAndRead(t *testing.T) {
	x := api.Event{ID: id(2, 1, 7), Type: "News", Attrs: []api.Attr{attr("title", text("a b"))}}
	if got := Text(x); got != "\x02\x01\x07\x04News\x01\x05title\x02\x03a b" || got != raw(x) {
		t.Errorf("Text: %q", got)
	}
	for line, x := range lines() {
		s := Text(x)
		for _, behind := range []string{"", "q", s} {
			if got, rest, e := Read(s + behind); e != api.OK || rest != behind || !Same(got, x) {
				t.Errorf("Read of %s: %v, %q, %v", line, got, rest, e)
			}
		}
		for i := range len(s) {
			if got, rest, e := Read(s[:i]); e != api.ErrShort || rest != "" || !isZero(got) {
				t.Fatalf("Read of the first %d bytes of %s: %v, %q, %v", i, line, got, rest, e)
			}
		}
	}
	for i, x := range wrongEvents() {
		if got := Text(x); got != "" {
			t.Errorf("Text of %d, that may not be: %q", i, got)
		}
	}
}

// Promise 6.1: what Read answers of bytes that are no event's.
func TestReadOfWrongBytes(t *testing.T) {
	for i, c := range []struct {
		s    string
		want api.Errno
	}{
		{"", api.ErrShort},
		{"\x40\x01", api.ErrForm},
		{"\x01\x01\x01\x80\x01\x00\x01", api.ErrLong},
		{raw(api.Event{ID: id(0, 1, 1), Type: "a"}), api.ErrForm},
		{raw(api.Event{ID: id(16, 1, 1), Type: "a"}), api.ErrForm},
		{raw(api.Event{ID: id(1, 1, api.MaxCount+1), Type: "a"}), api.ErrForm},
		{raw(api.Event{ID: id(1, 1, 1), Type: ""}), api.ErrForm},
		{raw(api.Event{ID: id(1, 1, 1), Type: "a b"}), api.ErrForm},
		{raw(api.Event{ID: id(1, 1, 1), Type: "a", Attrs: []api.Attr{attr("a.b", integer(1))}}), api.ErrForm},
		{raw(api.Event{ID: id(1, 1, 1), Type: "a", Attrs: []api.Attr{attr("b", integer(1)), attr("a", integer(1))}}), api.ErrForm},
		{raw(api.Event{ID: id(1, 1, 1), Type: "a", Attrs: many(api.MaxFields + 1)}), api.ErrLong},
		{"\x01\x01\x01\x01a\x01\x01b\x05\x00", api.ErrKind},
		{"\x01\x01\x01\x01a\x01\x01b\x00\x00", api.ErrKind},
		{"\x01\x01\x01\x01a\x01\x01b\x02\x01\xff", api.ErrForm},
		{"\x01\x01\x01\x01a\x01\x01b\x03\x02", api.ErrForm},
		// An error further on comes ahead of that it may not be.
		{"\x00\x01\x01\x01a\x01\x01b\x05\x00", api.ErrKind},
		{"\x00\x00\x00\x00", api.ErrShort},
		{"\x00\x00\x00\x00\x00", api.ErrForm},
	} {
		if got, rest, e := Read(c.s); e != c.want || rest != "" || !isZero(got) {
			t.Errorf("Read %d, of %q: %v, %q, %v", i, c.s, got, rest, e)
		}
	}
}

// Promise 6.2: Sort.
func TestSort(t *testing.T) {
	l := []api.Attr{attr("É", integer(1)), attr("b", text("")), attr("_", truth(1)), attr("A", bytes("x")), attr("a1", integer(2))}
	given := slices.Clone(l)
	got, e := Sort(l)
	want := []api.Attr{l[2], l[3], l[4], l[1], l[0]}
	if e != api.OK || !slices.Equal(got, want) || !schema.Attrs(got) {
		t.Errorf("Sort: %v, %v", got, e)
	}
	got[0] = api.Attr{}
	if !slices.Equal(l, given) {
		t.Errorf("Sort changes what it was given, or hands it out")
	}
	got, _ = Sort(want)
	if got[0] = (api.Attr{}); want[0] != given[2] {
		t.Errorf("Sort hands out what was sorted already")
	}
	back := many(api.MaxFields)
	slices.Reverse(back)
	if got, e := Sort(back); e != api.OK || !slices.Equal(got, many(api.MaxFields)) {
		t.Errorf("Sort of as many as there may be: %v, %v", got, e)
	}
	if got, e := Sort(nil); e != api.OK || len(got) != 0 {
		t.Errorf("Sort of nothing: %v, %v", got, e)
	}
	for i, c := range []struct {
		l    []api.Attr
		want api.Errno
	}{
		{make([]api.Attr, api.MaxFields+1), api.ErrLong},
		{many(api.MaxFields + 1), api.ErrLong},
		{make([]api.Attr, api.MaxFields), api.ErrArg},
		{[]api.Attr{attr("a.b", integer(1))}, api.ErrArg},
		{[]api.Attr{attr("a", integer(1)), attr("A", integer(1)), attr("", integer(1))}, api.ErrArg},
		{[]api.Attr{attr("a", integer(1)), attr("a", truth(2))}, api.ErrArg},
		{[]api.Attr{attr("a", integer(1)), attr("a", integer(1))}, api.ErrClash},
		{[]api.Attr{attr("É", integer(1)), attr("b", integer(1)), attr("é", integer(2))}, api.ErrClash},
	} {
		if got, e := Sort(c.l); e != c.want || got != nil {
			t.Errorf("Sort %d: %v, %v", i, got, e)
		}
	}
}

// Promise 6.2: Keep.
func TestKeep(t *testing.T) {
	x := api.Event{ID: id(2, 3, 4), Type: "News", Attrs: []api.Attr{attr("A", integer(1)), attr("b", text("x")), attr("é", truth(1))}}
	given := slices.Clone(x.Attrs)
	for i, c := range []struct {
		l    []api.Field
		want []api.Attr
	}{
		{nil, nil},
		{[]api.Field{{Name: "B"}}, given[1:2]},
		{[]api.Field{{Name: "É", Kind: api.KindInt, Must: true}, {Name: "z"}, {Name: "a"}}, []api.Attr{given[0], given[2]}},
		{[]api.Field{{Name: "a"}, {Name: "b"}, {Name: "b"}, {Name: "é"}}, given},
		{[]api.Field{{Name: ""}, {Name: "\xff"}, {Name: "bb"}}, nil},
	} {
		got := Keep(x, c.l)
		if got.ID != x.ID || got.Type != x.Type || !slices.Equal(got.Attrs, c.want) {
			t.Errorf("Keep %d: %v", i, got)
		}
		for k := range got.Attrs {
			got.Attrs[k] = api.Attr{}
		}
		if !slices.Equal(x.Attrs, given) {
			t.Fatalf("Keep %d hands out what it was given", i)
		}
	}
	// An event that may not be is kept as well.
	odd := api.Event{Type: "1", Attrs: []api.Attr{attr("b", api.Value{}), attr("a", integer(1)), attr("B", integer(2)), {}}}
	if got := Keep(odd, []api.Field{{Name: "b"}, {}}); got.Type != "1" || !slices.Equal(got.Attrs, []api.Attr{odd.Attrs[0], odd.Attrs[2], {}}) {
		t.Errorf("Keep of an event that may not be: %v", got)
	}
}

// someEvent: an event that chance makes.
func someEvent(r *rand.Rand) api.Event {
	pieces := []string{"a", "é", " ", "=", `"`, `\`, "\n", "\x01", "\x7f", "中", "1", "'", "."}
	some := func() (s string) {
		for range r.Intn(6) {
			s += pieces[r.Intn(len(pieces))]
		}
		return s
	}
	var l []api.Attr
	for i := range r.Intn(6) {
		v := []api.Value{integer(r.Intn(2000) - 1000), text(some()), truth(r.Intn(2)), bytes(some() + "\xff")}[r.Intn(4)]
		l = append(l, attr(string(rune('A'+32*r.Intn(2)+i))+"-x", v))
	}
	return api.Event{ID: id(1+r.Intn(15), 1+r.Intn(1000), 1+r.Intn(1000)), Type: []string{"News", "a.b", "中.é"}[r.Intn(3)], Attrs: l}
}

// Promise 6.3: what is written is read; events that are the same are alike.
func TestWhatFollows(t *testing.T) {
	r := rand.New(rand.NewSource(6))
	last := someEvent(r)
	for range 3000 {
		x := someEvent(r)
		if got, e := Parse(Show(x)); e != api.OK || !Same(got, x) || !Alike(got, x) {
			t.Fatalf("the line %q: %v, %v", Show(x), got, e)
		}
		if got, rest, e := Read(Text(x) + Show(last)); e != api.OK || rest != Show(last) || !Same(got, x) || !Alike(got, x) {
			t.Fatalf("the bytes %q: %v, %v", Text(x), got, e)
		}
		if Same(x, last) != (Show(x) == Show(last)) || Same(x, last) != (Text(x) == Text(last)) {
			t.Fatalf("one way alone: %v, %v", x, last)
		}
		if x.Attrs, _ = Sort(x.Attrs); !Check(x) {
			t.Fatalf("%v, sorted, may not be", x)
		}
		last = x
	}
}

// Promise 6.3: what fits a type and is kept by the fields of one that it is of, fits that one, by its name.
func TestWhatIsKeptFitsAbove(t *testing.T) {
	own := func(s string, must bool) []api.Field {
		return []api.Field{{Name: s, Kind: api.KindInt, Must: must}, {Name: s + "2", Kind: api.KindInt}}
	}
	news, _ := forest.Root("News", own("title", true), id(1, 1, 1))
	sport, _ := forest.Below(news, "News.Sport", own("score", true), id(1, 1, 2))
	golf, e := forest.Below(sport, "Golf", own("hole", false), id(1, 1, 3))
	if e != api.OK {
		t.Fatal(e)
	}
	r := rand.New(rand.NewSource(7))
	for range 200 {
		x := api.Event{ID: id(1, 1, 1), Type: "GOLF"}
		for _, f := range golf.All {
			if f.Must || r.Intn(2) == 0 {
				x.Attrs = append(x.Attrs, attr(strings.ToUpper(f.Name), integer(1)))
			}
		}
		if e := forest.Fits(golf, x); e != api.OK {
			t.Fatalf("%v does not fit: %v", x, e)
		}
		for _, of := range []api.Type{golf, sport, news} {
			kept := Keep(x, of.All)
			kept.Type = of.Name
			if e := forest.Fits(of, kept); e != api.OK {
				t.Fatalf("%v does not fit %q: %v", kept, of.Name, e)
			}
		}
	}
}

// Rule R1, and promise 6.3: any text is answered, and what is read is written so.
func FuzzParse(f *testing.F) {
	for s, x := range lines() {
		f.Add(s)
		f.Add(Text(x) + "q")
	}
	f.Fuzz(func(t *testing.T, s string) {
		x, e := Parse(s)
		if e == api.OK && Show(x) != s || e != api.OK && (e != api.ErrForm || !isZero(x)) {
			t.Errorf("Parse(%q): %v, %v", s, x, e)
		}
		who, e := ParseID(s)
		if e == api.OK && ShowID(who) != s || e != api.OK && (e != api.ErrForm || who != api.ID{}) {
			t.Errorf("ParseID(%q): %v, %v", s, who, e)
		}
		x, rest, e := Read(s)
		if e == api.OK && Text(x)+rest != s || e != api.OK && (rest != "" || !isZero(x)) {
			t.Errorf("Read(%q): %v, %q, %v", s, x, rest, e)
		}
	})
}
