package schema

import (
	"math"
	"math/rand"
	"slices"
	"strings"
	"testing"

	"caduceus/api"
	"caduceus/name"
	"caduceus/quic"
	"caduceus/value"
)

func field(title string, kind int) api.Field  { return api.Field{Name: title, Kind: kind} }
func must(title string, kind int) api.Field   { return api.Field{Name: title, Kind: kind, Must: true} }
func attr(title string, v api.Value) api.Attr { return api.Attr{Name: title, V: v} }

var (
	five = api.Value{Kind: api.KindInt, N: 5}
	word = api.Value{Kind: api.KindText, S: "x"}
	yes  = api.Value{Kind: api.KindBool, N: 1}
	raw  = api.Value{Kind: api.KindBytes, S: "\xff"}
)

// title: the i-th of names that rise.
func title(i int) string {
	return string([]byte{'a' + byte(i/10), '0' + byte(i%10)})
}

// many: that many fields, by names that rise.
func many(count int) (l []api.Field) {
	for i := range count {
		l = append(l, field(title(i), api.KindInt+i%4))
	}
	return l
}

// manyAttrs: that many attributes, by names that rise.
func manyAttrs(count int) (l []api.Attr) {
	for i := range count {
		l = append(l, attr(title(i), five))
	}
	return l
}

// lines: schemas, by their lines.
var lines = map[string][]api.Field{
	"-":                                nil,
	"a int":                            {field("a", api.KindInt)},
	"a int!, b text":                   {must("a", api.KindInt), field("b", api.KindText)},
	"price int!, raw bytes, Sym text":  {must("price", api.KindInt), field("raw", api.KindBytes), field("Sym", api.KindText)},
	"A bool, b bool!":                  {field("A", api.KindBool), must("b", api.KindBool)},
	"B bytes!, é text!, я int, 中 bool": {must("B", api.KindBytes), must("é", api.KindText), field("я", api.KindInt), field("中", api.KindBool)},
	"_ int, a-1 int, a1 int, a_ int":   {field("_", 1), field("a-1", 1), field("a1", 1), field("a_", 1)},
	"a int, aa int, B int":             {field("a", 1), field("aa", 1), field("B", 1)},
	"int int, text text":               {field("int", 1), field("text", 2)},
}

// wrongFields: fields that may not be.
var wrongFields = []api.Field{
	{},
	{Name: "a"},
	field("", api.KindInt),
	field("a", -1),
	field("a", 5),
	field("a", math.MaxInt),
	field("a", math.MinInt),
	field("a.b", api.KindInt),
	field("a.", api.KindInt),
	field("1a", api.KindInt),
	field("-a", api.KindInt),
	field("a b", api.KindInt),
	field("a,", api.KindInt),
	field("a!", api.KindInt),
	field("\xff", api.KindInt),
	field("a\xff", api.KindInt),
	field(strings.Repeat("a", api.MaxName+1), api.KindInt),
	{Name: "x y", Kind: 9, Must: true},
}

// notSchemas: lists that are none, though each field may be.
var notSchemas = [][]api.Field{
	{field("b", 1), field("a", 1)},
	{field("a", 1), field("a", 1)},
	{field("a", 1), field("A", 2)},
	{field("É", 1), field("é", 1)},
	{field("b", 1), field("A", 1)},
	{field("a", 1), field("c", 1), field("B", 1)},
	{field("a", 1), field("c", 1), field("C", 1)},
	many(api.MaxFields + 1),
}

// Promise 4.1: Check.
func TestCheck(t *testing.T) {
	good := [][]api.Field{{}, many(api.MaxFields), {field(strings.Repeat("é", api.MaxName), 4)}}
	for _, l := range lines {
		good = append(good, l)
	}
	for _, l := range good {
		if !Check(l) {
			t.Errorf("Check(%v): it is a schema", l)
		}
	}
	bad := slices.Clone(notSchemas)
	for _, x := range wrongFields {
		bad = append(bad, []api.Field{x}, []api.Field{field("_", 1), x}, []api.Field{x, field("z", 1)})
	}
	for _, l := range bad {
		if Check(l) {
			t.Errorf("Check(%v): it is none", l)
		}
	}
}

// Promise 4.1: Sort.
func TestSort(t *testing.T) {
	for _, want := range lines {
		l := slices.Clone(want)
		slices.Reverse(l)
		if got, e := Sort(l); !slices.Equal(got, want) || e != api.OK {
			t.Errorf("Sort(%v): %v, %v", l, got, e)
		}
	}
	most := many(api.MaxFields)
	l := slices.Clone(most)
	rand.New(rand.NewSource(1)).Shuffle(len(l), func(i, j int) { l[i], l[j] = l[j], l[i] })
	if got, e := Sort(l); !slices.Equal(got, most) || e != api.OK {
		t.Errorf("Sort of the most: %v, %v", got, e)
	}
	for _, c := range []struct {
		l    []api.Field
		want api.Errno
	}{
		{many(api.MaxFields + 1), api.ErrLong},
		{slices.Repeat([]api.Field{{}}, api.MaxFields+1), api.ErrLong},
		{slices.Repeat([]api.Field{field("a", 1)}, api.MaxFields+1), api.ErrLong},
		{[]api.Field{field("a", 1), field("a", 1), {}}, api.ErrArg},
		{[]api.Field{field("a", 1), field("a", 1)}, api.ErrClash},
		{[]api.Field{field("É", 1), field("b", 1), must("é", 2)}, api.ErrClash},
		{slices.Repeat([]api.Field{field("a", 1)}, api.MaxFields), api.ErrClash},
	} {
		if got, e := Sort(c.l); len(got) != 0 || e != c.want {
			t.Errorf("Sort(%v): %v, %v, not %v", c.l, got, e, c.want)
		}
	}
	for _, x := range wrongFields {
		if got, e := Sort([]api.Field{field("b", 1), x}); len(got) != 0 || e != api.ErrArg {
			t.Errorf("Sort with %v: %v, %v", x, got, e)
		}
	}
}

// Promise 4.1: Merge; 4.4: it is the same either way round.
func TestMerge(t *testing.T) {
	for _, c := range []struct{ of, own, want string }{
		{"-", "-", "-"},
		{"a int!, b text", "-", "a int!, b text"},
		{"b text", "a int!", "a int!, b text"},
		{"a int, C bool, e text", "B bytes!, d int", "a int, B bytes!, C bool, d int, e text"},
	} {
		of, own, want := lines1(t, c.of), lines1(t, c.own), lines1(t, c.want)
		for _, two := range [][2][]api.Field{{of, own}, {own, of}} {
			if got, e := Merge(two[0], two[1]); !slices.Equal(got, want) || e != api.OK {
				t.Errorf("Merge of %s and %s: %v, %v", c.of, c.own, got, e)
			}
		}
	}
	most := many(api.MaxFields)
	if got, e := Merge(most[:20], most[20:]); !slices.Equal(got, most) || e != api.OK {
		t.Errorf("Merge to the most: %v, %v", got, e)
	}
	bad := []api.Field{field("b", 1), field("a", 1)}
	for _, c := range []struct {
		of, own []api.Field
		want    api.Errno
	}{
		{bad, nil, api.ErrArg},
		{nil, bad, api.ErrArg},
		{bad, []api.Field{field("a", 1)}, api.ErrArg},
		{many(api.MaxFields + 1), nil, api.ErrArg},
		{nil, []api.Field{{}}, api.ErrArg},
		{[]api.Field{field("a", 1)}, []api.Field{field("a", 1)}, api.ErrClash},
		{[]api.Field{must("a", 1), field("b", 2)}, []api.Field{field("A", 3)}, api.ErrClash},
		{[]api.Field{field("é", 1)}, []api.Field{field("b", 1), field("É", 3)}, api.ErrClash},
		{most, most, api.ErrClash}, // ahead of too many
		{most, []api.Field{field("a", 1), field("a1", 1)}, api.ErrClash},
		{most, []api.Field{field("z", 1)}, api.ErrLong},
		{[]api.Field{field("_", 1)}, most, api.ErrLong},
	} {
		if got, e := Merge(c.of, c.own); len(got) != 0 || e != c.want {
			t.Errorf("Merge(%v, %v): %v, %v, not %v", c.of, c.own, got, e, c.want)
		}
	}
}

func lines1(t *testing.T, s string) []api.Field {
	l, e := Parse(s)
	if e != api.OK {
		t.Fatalf("Parse(%s): %v", s, e)
	}
	return l
}

// Promise 4.1: Find, also in what is no schema.
func TestFind(t *testing.T) {
	l := []api.Field{must("b", 1), field("É", 2), field("a", 9), field("é", 3), field("", 4), field("\xff", 1)}
	for s, at := range map[string]int{"b": 0, "B": 0, "é": 1, "É": 1, "A": 2, "": 4, "\xff": 5} {
		if x, is := Find(l, s); x != l[at] || !is {
			t.Errorf("Find %q: %v, %v", s, x, is)
		}
	}
	for _, s := range []string{"c", "bb", "\xfe", " b", "e"} {
		if x, is := Find(l, s); x != (api.Field{}) || is {
			t.Errorf("Find %q: %v, %v", s, x, is)
		}
	}
	if x, is := Find(nil, ""); x != (api.Field{}) || is {
		t.Errorf("Find in nothing: %v, %v", x, is)
	}
}

// Promise 4.1: Within.
func TestWithin(t *testing.T) {
	l := []api.Field{must("a", 1), field("B", 2), field("c", 3), field("c", 4)}
	for _, c := range []struct {
		a, b []api.Field
		want bool
	}{
		{nil, nil, true},
		{nil, l, true},
		{l, l, true},
		{l[1:], l, true},
		{l, l[1:], false},
		{l, nil, false},
		{[]api.Field{must("A", 1), field("b", 2)}, l, true},
		{[]api.Field{field("b", 2), must("a", 1)}, l, true},
		{[]api.Field{field("c", 4)}, l, true}, // not the first one of its name
		{[]api.Field{field("a", 1)}, l, false},
		{[]api.Field{must("B", 2)}, l, false},
		{[]api.Field{must("a", 2)}, l, false},
		{[]api.Field{must("a", 1), field("d", 1)}, l, false},
		{[]api.Field{field("d", 1), must("a", 1)}, l, false},
	} {
		if got := Within(c.a, c.b); got != c.want {
			t.Errorf("Within(%v, %v): %v", c.a, c.b, got)
		}
	}
}

// Promise 4.2: Attrs.
func TestAttrs(t *testing.T) {
	for _, l := range [][]api.Attr{
		nil,
		{},
		{attr("a", five)},
		{attr("A", five), attr("b", word), attr("É", raw), attr("é1", yes)},
		manyAttrs(api.MaxFields),
	} {
		if !Attrs(l) {
			t.Errorf("Attrs(%v): they may be", l)
		}
	}
	bad := [][]api.Attr{
		manyAttrs(api.MaxFields + 1),
		{attr("b", five), attr("a", five)},
		{attr("a", five), attr("A", word)},
		{attr("a", five), attr("c", five), attr("B", five)},
		{attr("a", api.Value{})},
		{attr("a", api.Value{Kind: api.KindText, S: "\xff"})},
		{attr("a", five), attr("b", api.Value{Kind: api.KindInt, N: api.MaxInt + 1})},
	}
	for _, x := range wrongFields {
		if !onePart(x.Name) {
			bad = append(bad, []api.Attr{attr(x.Name, five)}, []api.Attr{attr("_", five), attr(x.Name, five)})
		}
	}
	for _, l := range bad {
		if Attrs(l) {
			t.Errorf("Attrs(%v): they may not be", l)
		}
		if s := AttrText(l); s != "" {
			t.Errorf("AttrText(%v): %x", l, s)
		}
	}
}

// Promise 4.2: Get, also from what may not be.
func TestGet(t *testing.T) {
	l := []api.Attr{attr("b", five), attr("a", word), attr("B", yes), attr("É", raw), attr("", five), attr("n", api.Value{})}
	for s, want := range map[string]api.Value{"b": five, "B": five, "A": word, "é": raw, "": five, "N": {}} {
		if v, is := Get(l, s); v != want || !is {
			t.Errorf("Get %q: %v, %v", s, v, is)
		}
	}
	for _, s := range []string{"c", "ab", "\xff"} {
		if v, is := Get(l, s); v != (api.Value{}) || is {
			t.Errorf("Get %q: %v, %v", s, v, is)
		}
	}
	if v, is := Get(nil, "a"); v != (api.Value{}) || is {
		t.Errorf("Get from nothing: %v, %v", v, is)
	}
}

// Promise 4.2: Fits.
func TestFits(t *testing.T) {
	l := []api.Field{must("a", api.KindInt), field("b", api.KindText), must("D", api.KindBool), field("e", api.KindBytes)}
	two := l[:2]
	for _, c := range []struct {
		l    []api.Field
		a    []api.Attr
		want api.Errno
	}{
		{nil, nil, api.OK},
		{two, []api.Attr{attr("a", five)}, api.OK},
		{two, []api.Attr{attr("A", five), attr("B", word)}, api.OK},
		{l, []api.Attr{attr("a", five), attr("b", word), attr("d", yes), attr("e", raw)}, api.OK},
		{l, []api.Attr{attr("a", five), attr("D", yes)}, api.OK},
		{two[1:], nil, api.OK},
		{two, []api.Attr{attr("b", word)}, api.ErrShort},
		{two, nil, api.ErrShort},
		{l, []api.Attr{attr("a", five)}, api.ErrShort},
		{two, []api.Attr{attr("a", word)}, api.ErrKind},
		{l, []api.Attr{attr("a", yes)}, api.ErrKind},
		{l, []api.Attr{attr("a", five), attr("e", word)}, api.ErrKind},
		{two, []api.Attr{attr("a", five), attr("c", five)}, api.ErrNone},
		{nil, []api.Attr{attr("a", five)}, api.ErrNone},
		{two, []api.Attr{attr("_", five), attr("a", word)}, api.ErrNone}, // the first one that is wrong tells
		{two, []api.Attr{attr("a", word), attr("c", five)}, api.ErrKind},
		{two, []api.Attr{attr("b", five)}, api.ErrKind}, // ahead of what is missing
		{two, []api.Attr{attr("c", five)}, api.ErrNone},
		{[]api.Field{l[1], l[0]}, []api.Attr{attr("a", five)}, api.ErrArg},
		{[]api.Field{{}}, nil, api.ErrArg},
		{two, []api.Attr{attr("b", word), attr("a", five)}, api.ErrArg},
		{two, []api.Attr{attr("a", api.Value{Kind: api.KindInt, S: "a"})}, api.ErrArg},
		{two, []api.Attr{attr("c", five), attr("a.b", five)}, api.ErrArg},
		{many(api.MaxFields), manyAttrs(api.MaxFields + 1), api.ErrArg},
	} {
		if e := Fits(c.l, c.a); e != c.want {
			t.Errorf("Fits(%v, %v): %v, not %v", c.l, c.a, e, c.want)
		}
	}
}

// Promise 4.3: Show and Parse.
func TestShowAndParse(t *testing.T) {
	for s, l := range lines {
		if got := Show(l); got != s {
			t.Errorf("Show(%v): %s, not %s", l, got, s)
		}
		if got, e := Parse(s); !slices.Equal(got, l) || e != api.OK {
			t.Errorf("Parse(%s): %v, %v", s, got, e)
		}
	}
	most := many(api.MaxFields)
	if got, e := Parse(Show(most)); !slices.Equal(got, most) || e != api.OK {
		t.Errorf("Parse of the most: %v, %v", got, e)
	}
	for _, l := range notSchemas {
		if got := Show(l); got != "" {
			t.Errorf("Show(%v): %s", l, got)
		}
	}
	for _, x := range wrongFields {
		if got := Show([]api.Field{x}); got != "" {
			t.Errorf("Show of %v: %s", x, got)
		}
	}
	for _, s := range []string{
		"", " ", "--", "- ", " -", "-, a int", "a int, -", "a", "a ", "int", " int", "a  int", " a int", "a int ", "a\tint", "a int,", "a int, ", ", a int", ",", ", ", "a int,, b int", "a int,b int", "a int,  b int", "a int , b int", "a int; b int",
		"a float", "a Int", "a INT", "a int !", "a int!!", "a !int", "a! int", "a !", "a!", "a int bool", "a int!, b", "a none", "a  ", "a int\n", "a intx",
		"b int, a int", "a int, A int", "a int, a text", "a.b int", "1 int", "\xff int", "a int, \xff", strings.Repeat("a", 41) + " int",
		Show(most) + ", z int", Show(most) + ", ", strings.Repeat("a int, ", 1000) + "b int",
	} {
		if l, e := Parse(s); len(l) != 0 || e != api.ErrForm {
			t.Errorf("Parse(%q): %v, %v", s, l, e)
		}
	}
}

// Promise 4.3: a schema's bytes, there and back.
func TestTextAndRead(t *testing.T) {
	for s, l := range map[string][]api.Field{
		"\x00":                                  nil,
		"\x01\x01b\x03\x01":                     {must("b", 3)},
		"\x02\x01a\x01\x00\x02\xc3\xa9\x04\x01": {field("a", 1), must("é", 4)},
	} {
		if got := Text(l); got != s {
			t.Errorf("Text(%v): %x, not %x", l, got, s)
		}
		for _, behind := range []string{"", "q", "\xff"} {
			if got, rest, e := Read(s + behind); !slices.Equal(got, l) || rest != behind || e != api.OK {
				t.Errorf("Read(%x): %v, %x, %v", s+behind, got, rest, e)
			}
		}
		for i := range len(s) {
			if got, rest, e := Read(s[:i]); len(got) != 0 || rest != "" || e != api.ErrShort {
				t.Errorf("Read(%x): %v, %x, %v of bytes that end", s[:i], got, rest, e)
			}
		}
	}
	most := many(api.MaxFields)
	if got, rest, e := Read(Text(most) + "\x00"); !slices.Equal(got, most) || rest != "\x00" || e != api.OK {
		t.Errorf("Read of the most: %v, %x, %v", got, rest, e)
	}
	for _, l := range notSchemas {
		if got := Text(l); got != "" {
			t.Errorf("Text(%v): %x", l, got)
		}
	}
	for _, x := range wrongFields {
		if got := Text([]api.Field{x}); got != "" {
			t.Errorf("Text of %v: %x", x, got)
		}
	}
}

// written: a field's bytes, whether it may be or not.
func written(x api.Field) string {
	flag := "\x00"
	if x.Must {
		flag = "\x01"
	}
	return quic.Num(len(x.Name)) + x.Name + quic.Num(x.Kind) + flag
}

// Promise 4.3: what Read refuses, and in which order.
func TestReadErrors(t *testing.T) {
	long := ""
	for _, x := range many(api.MaxFields + 1) {
		long += written(x)
	}
	for s, want := range map[string]api.Errno{
		"":                               api.ErrShort,
		"\x40\x01":                       api.ErrForm,
		"\x40\x01\x01a\x01\x00":          api.ErrForm,
		"\x01":                           api.ErrShort,
		"\x01\x01a\x01":                  api.ErrShort,
		"\x01\x01a\x01\x02":              api.ErrForm,
		"\x01\x01a\x40\x01\x00":          api.ErrForm,
		"\x01" + quic.Num(api.MaxText+1): api.ErrLong,
		"\x01\x01a\x00\x00":              api.ErrForm,
		"\x01\x01a\x05\x00":              api.ErrForm,
		"\x01\x00\x01\x00":               api.ErrForm,
		"\x01\x03a.b\x01\x00":            api.ErrForm,
		"\x01\x01\xff\x01\x00":           api.ErrForm,
		"\x02\x01b\x01\x00\x01a\x01\x00": api.ErrForm,
		"\x02\x01a\x01\x00\x01A\x01\x00": api.ErrForm,
		"\x02\x00\x01\x00":               api.ErrShort, // ahead of a field that may not be
		"\x19" + long:                    api.ErrLong,
		"\x19" + long + "behind":         api.ErrLong,
		"\x19" + strings.Repeat("\x00\x00\x00", 25): api.ErrLong, // ahead of fields that may not be
		"\x19":                               api.ErrShort, // what the bytes lack comes ahead of too many
		"\x19" + long[:len(long)-1]:          api.ErrShort,
		"\x19" + long[:len(long)-1] + "\x02": api.ErrForm,
		quic.Num(api.MaxNum) + long:          api.ErrShort,
	} {
		if l, rest, e := Read(s); len(l) != 0 || rest != "" || e != want {
			t.Errorf("Read(%x): %v, %x, %v, not %v", s, l, rest, e, want)
		}
	}
}

// Promise 4.3: the bytes of attributes, there and back.
func TestAttrTextAndReadAttrs(t *testing.T) {
	for s, l := range map[string][]api.Attr{
		"\x00":                            nil,
		"\x01\x01a\x01\x0a":               {attr("a", five)},
		"\x02\x01A\x02\x01x\x01b\x03\x01": {attr("A", word), attr("b", yes)},
		"\x01\x02\xc3\x89\x04\x01\xff":    {attr("É", raw)},
	} {
		if got := AttrText(l); got != s {
			t.Errorf("AttrText(%v): %x, not %x", l, got, s)
		}
		for _, behind := range []string{"", "q", "\xff"} {
			if got, rest, e := ReadAttrs(s + behind); !slices.Equal(got, l) || rest != behind || e != api.OK {
				t.Errorf("ReadAttrs(%x): %v, %x, %v", s+behind, got, rest, e)
			}
		}
		for i := range len(s) {
			if got, rest, e := ReadAttrs(s[:i]); len(got) != 0 || rest != "" || e != api.ErrShort {
				t.Errorf("ReadAttrs(%x): %v, %x, %v of bytes that end", s[:i], got, rest, e)
			}
		}
	}
	most := manyAttrs(api.MaxFields)
	if got, rest, e := ReadAttrs(AttrText(most) + "\x00"); !slices.Equal(got, most) || rest != "\x00" || e != api.OK {
		t.Errorf("ReadAttrs of the most: %v, %x, %v", got, rest, e)
	}
}

// Promise 4.3: what ReadAttrs refuses, and in which order.
func TestReadAttrsErrors(t *testing.T) {
	long := ""
	for _, x := range manyAttrs(api.MaxFields + 1) {
		long += quic.Num(len(x.Name)) + x.Name + value.Text(x.V)
	}
	for s, want := range map[string]api.Errno{
		"":                               api.ErrShort,
		"\x40\x00":                       api.ErrForm,
		"\x01":                           api.ErrShort,
		"\x01\x01a":                      api.ErrShort,
		"\x01\x01a\x01":                  api.ErrShort,
		"\x01\x01a\x00\x00":              api.ErrKind,
		"\x01\x01a\x05\x00":              api.ErrKind,
		"\x01\x01a\x02\x01\xff":          api.ErrForm,
		"\x01\x01a\x03\x02":              api.ErrForm,
		"\x01" + quic.Num(api.MaxText+1): api.ErrLong,
		"\x01\x00\x01\x00":               api.ErrForm,
		"\x01\x03a.b\x01\x00":            api.ErrForm,
		"\x02\x01b\x01\x00\x01a\x01\x00": api.ErrForm,
		"\x02\x01a\x01\x00\x01A\x01\x00": api.ErrForm,
		"\x02\x00\x01\x00\x01a\x09":      api.ErrKind, // ahead of an attribute that may not be
		"\x19" + long:                    api.ErrLong,
		"\x19" + strings.Repeat("\x00\x01\x00", 25): api.ErrLong,
		"\x19":                               api.ErrShort,
		"\x19" + long[:len(long)-2] + "\x00": api.ErrKind,
		quic.Num(api.MaxNum) + long:          api.ErrShort,
	} {
		if l, rest, e := ReadAttrs(s); len(l) != 0 || rest != "" || e != want {
			t.Errorf("ReadAttrs(%x): %v, %x, %v, not %v", s, l, rest, e, want)
		}
	}
}

// R3: what is handed in is neither changed nor shared.
func TestNothingIsShared(t *testing.T) {
	in := []api.Field{field("b", 1), field("a", 1)}
	out, _ := Sort(in)
	out[0].Name = "z"
	if in[0] != field("b", 1) || in[1] != field("a", 1) {
		t.Errorf("Sort changed its argument: %v", in)
	}
	// Room behind the list is not written to, either.
	of := []api.Field{field("b", 1), field("c", 1)}
	own := []api.Field{field("a", 1)}
	both, _ := Merge(of[:1], own)
	both[0].Name, both[1].Name = "y", "z"
	if of[0] != field("b", 1) || of[1] != field("c", 1) || own[0] != field("a", 1) {
		t.Errorf("Merge changed its arguments: %v, %v", of, own)
	}
	for _, empty := range [][]api.Field{nil, {}} {
		whole, _ := Merge(of, empty)
		whole[0].Name = "z"
		other, _ := Merge(empty, of)
		other[0].Name = "y"
		if of[0] != field("b", 1) || whole[0].Name != "z" {
			t.Errorf("Merge with nothing shares: %v", of)
		}
	}
}

// some: a schema of names out of few, so that two often have one.
func some(r *rand.Rand) []api.Field {
	var l []api.Field
	for i := range 8 {
		if r.Intn(3) == 0 {
			s := string(rune('a' + i))
			if r.Intn(2) == 0 {
				s = strings.ToUpper(s)
			}
			l = append(l, api.Field{Name: s, Kind: 1 + r.Intn(4), Must: r.Intn(3) == 0})
		}
	}
	return l
}

// Promise 4.4: what fits a schema fits every one that it is within; a merge is the same either way round.
func TestWhatFollows(t *testing.T) {
	r := rand.New(rand.NewSource(4))
	values := []api.Value{five, word, yes, raw}
	var fitted, merged int
	for range 20000 {
		a, b := some(r), some(r)
		both, e := Merge(a, b)
		other, f := Merge(b, a)
		if !slices.Equal(both, other) || e != f {
			t.Fatalf("Merge(%v, %v): %v, %v, the other way round %v, %v", a, b, both, e, other, f)
		}
		if e != api.OK {
			continue
		}
		merged++
		if !Check(both) || !Within(a, both) || !Within(b, both) {
			t.Fatalf("Merge(%v, %v): %v", a, b, both)
		}
		var l []api.Attr
		for _, x := range a {
			if r.Intn(4) > 0 {
				l = append(l, attr(name.Fold(x.Name), values[x.Kind-1]))
			}
		}
		more := slices.ContainsFunc(b, func(x api.Field) bool { return x.Must })
		if Fits(a, l) == api.OK && !more {
			fitted++
			if e := Fits(both, l); e != api.OK {
				t.Fatalf("%v fits %v, but not %v: %v", l, a, both, e)
			}
		}
	}
	if fitted < 500 || merged < 500 {
		t.Errorf("too few: %d, %d", fitted, merged)
	}
}

// Promise 4.4: what is written is read, in one way alone, whatever the bytes were.
func FuzzOneWayAlone(f *testing.F) {
	for s, l := range lines {
		f.Add(s)
		f.Add(Text(l))
	}
	f.Add(AttrText([]api.Attr{attr("A", word), attr("b", yes), attr("c", five), attr("d", raw)}))
	f.Add("\x01\x01a\x01\x40\x02")
	f.Fuzz(func(t *testing.T, s string) {
		l, e := Parse(s)
		if e == api.OK && Show(l) != s || e != api.OK && len(l) != 0 {
			t.Errorf("Parse(%q): %v, %v", s, l, e)
		}
		l, rest, e := Read(s)
		if e == api.OK && Text(l)+rest != s || e != api.OK && (len(l) != 0 || rest != "") {
			t.Errorf("Read(%x): %v, %x, %v", s, l, rest, e)
		}
		a, rest, e := ReadAttrs(s)
		if e == api.OK && AttrText(a)+rest != s || e != api.OK && (len(a) != 0 || rest != "") {
			t.Errorf("ReadAttrs(%x): %v, %x, %v", s, a, rest, e)
		}
	})
}
