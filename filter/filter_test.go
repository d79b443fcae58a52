package filter

import (
	"math"
	"math/rand"
	"slices"
	"strconv"
	"strings"
	"testing"

	"caduceus/api"
	"caduceus/name"
	"caduceus/quic"
	"caduceus/schema"
	"caduceus/value"
)

func num(n int) api.Value     { return api.Value{Kind: api.KindInt, N: n} }
func text(s string) api.Value { return api.Value{Kind: api.KindText, S: s} }
func truth(n int) api.Value   { return api.Value{Kind: api.KindBool, N: n} }
func raw(s string) api.Value  { return api.Value{Kind: api.KindBytes, S: s} }

func pred(title string, op int, l ...api.Value) api.Pred {
	return api.Pred{Name: title, Op: op, L: l}
}

func attr(title string, v api.Value) api.Attr { return api.Attr{Name: title, V: v} }

func as(s string, n int) string { return strings.Repeat(s, n) }

// nums: that many integers, from 0 on.
func nums(count int) (l []api.Value) {
	for i := range count {
		l = append(l, num(i))
	}
	return l
}

// many: that many predicates.
func many(count int) (f []api.Pred) {
	for range count {
		f = append(f, pred("a", api.OpEq, num(1)))
	}
	return f
}

// shown: filters, by their texts.
func shown() map[string][]api.Pred {
	long := as("é", api.MaxName)
	values := make([]string, 0, api.MaxIn)
	for i := range api.MaxIn {
		values = append(values, strconv.Itoa(i))
	}
	return map[string][]api.Pred{
		"any":                   nil,
		"has a":                 {pred("a", api.OpHas)},
		"a = 1":                 {pred("a", api.OpEq, num(1))},
		"a != -5":               {pred("a", api.OpNe, num(-5))},
		"a < 1":                 {pred("a", api.OpLt, num(1))},
		"a <= 1":                {pred("a", api.OpLe, num(1))},
		"a > \"\"":              {pred("a", api.OpGt, text(""))},
		"a >= x'00'":            {pred("a", api.OpGe, raw("\x00"))},
		"a = true":              {pred("a", api.OpEq, truth(1))},
		"a != false":            {pred("a", api.OpNe, truth(0))},
		"a prefix \"and\"":      {pred("a", api.OpPre, text("and"))},
		"a prefix x''":          {pred("a", api.OpPre, raw(""))},
		"a in { 5 }":            {pred("a", api.OpIn, num(5))},
		"a in { false , true }": {pred("a", api.OpIn, truth(0), truth(1))},
		"A in { \"\" , \"a\" , \"b\" } and A = 1":                 {pred("A", api.OpIn, text(""), text("a"), text("b")), pred("A", api.OpEq, num(1))},
		`price >= 10 and sym in { "a" , "b" } and has raw`:        {pred("price", api.OpGe, num(10)), pred("sym", api.OpIn, text("a"), text("b")), pred("raw", api.OpHas)},
		"has _ and has é-9 and anyone = 1 and ha = 2 and ins = 3": {pred("_", api.OpHas), pred("é-9", api.OpHas), pred("anyone", api.OpEq, num(1)), pred("ha", api.OpEq, num(2)), pred("ins", api.OpEq, num(3))},
		"has " + long + " and " + long + " = 0":                   {pred(long, api.OpHas), pred(long, api.OpEq, num(0))},
		"true = 1 and has false and True in { true }":             {pred("true", api.OpEq, num(1)), pred("false", api.OpHas), pred("True", api.OpIn, truth(1))},
		"false in { \"false\" }":                                  {pred("false", api.OpIn, text("false"))},
		`a = "x and has\n\"{ , }\""`:                              {pred("a", api.OpEq, text("x and has\n\"{ , }\""))},
		`a < "` + as("a", api.MaxValue) + `"`:                     {pred("a", api.OpLt, text(as("a", api.MaxValue)))},
		"a in { " + strings.Join(values, " , ") + " }":            {pred("a", api.OpIn, nums(api.MaxIn)...)},
		"a = 1" + as(" and a = 1", api.MaxPreds-1):                many(api.MaxPreds),
		"a >= -9007199254740991 and a <= 9007199254740991":        {pred("a", api.OpGe, num(-api.MaxInt)), pred("a", api.OpLe, num(api.MaxInt))},
	}
}

// wrongPreds: predicates that may not be.
func wrongPreds() []api.Pred {
	out := []api.Pred{
		{},
		pred("a", 0),
		pred("a", 0, num(1)),
		pred("a", -1, num(1)),
		pred("a", 10, num(1)),
		pred("a", math.MaxInt, num(1)),
		pred("a", math.MinInt),
		pred("a", api.OpHas, num(1)),
		pred("a", api.OpHas, api.Value{}),
		pred("a", api.OpPre, num(1)),
		pred("a", api.OpPre, truth(1)),
		pred("a", api.OpIn),
		pred("a", api.OpIn, nums(api.MaxIn+1)...),
		pred("a", api.OpIn, num(2), num(1)),
		pred("a", api.OpIn, num(1), num(1)),
		pred("a", api.OpIn, num(1), text("a")),
		pred("a", api.OpIn, text("b"), text("a")),
		pred("a", api.OpIn, text("a"), raw("b")),
		pred("a", api.OpIn, num(1), num(api.MaxInt+1)),
		pred("a", api.OpIn, truth(2)),
		pred("a", api.OpIn, api.Value{}),
	}
	for _, op := range []int{api.OpEq, api.OpNe, api.OpLt, api.OpLe, api.OpGt, api.OpGe, api.OpPre} {
		out = append(out, pred("a", op), pred("a", op, text("a"), text("b")), pred("a", op, api.Value{}), pred("a", op, text("\xff")), pred("a", op, raw(as("a", api.MaxValue+1))))
	}
	for _, op := range []int{api.OpLt, api.OpLe, api.OpGt, api.OpGe} {
		out = append(out, pred("a", op, truth(0)))
	}
	for _, s := range []string{"", "1", "-", "a.b", "a b", "a.", ".", "\xff", "a;", as("a", api.MaxName+1), "and", "in", "has", "prefix", "any", "AND", "In", "hAs", "PREFIX", "aNY"} {
		out = append(out, pred(s, api.OpHas), pred(s, api.OpEq, num(1)))
	}
	return out
}

// Promise 8.1: Check.
func TestCheck(t *testing.T) {
	for s, f := range shown() {
		if !Check(f) {
			t.Errorf("%s is a filter", s)
		}
	}
	if !Check([]api.Pred{{Name: "a", Op: api.OpHas, L: []api.Value{}}}) || !Check([]api.Pred{}) {
		t.Errorf("an empty list is as good as none")
	}
	for _, p := range wrongPreds() {
		if Check([]api.Pred{p}) || Check([]api.Pred{pred("a", api.OpHas), p}) || Check([]api.Pred{p, pred("a", api.OpHas)}) {
			t.Errorf("%v may not be", p)
		}
	}
	if Check(many(api.MaxPreds + 1)) {
		t.Errorf("too many")
	}
}

// questions: predicates, and whether they hold of these attributes.
var attrs = []api.Attr{attr("B", truth(1)), attr("n", num(5)), attr("r", raw("\x00ab")), attr("s", text("abc")), attr("é", text(""))}

var questions = []struct {
	p     api.Pred
	holds bool
}{
	{pred("b", api.OpHas), true},
	{pred("N", api.OpHas), true},
	{pred("É", api.OpHas), true},
	{pred("e", api.OpHas), false},
	{pred("nn", api.OpHas), false},

	{pred("n", api.OpEq, num(5)), true},
	{pred("N", api.OpEq, num(5)), true},
	{pred("n", api.OpEq, num(-5)), false},
	{pred("n", api.OpEq, text("5")), false},
	{pred("s", api.OpEq, text("abc")), true},
	{pred("s", api.OpEq, text("ABC")), false},
	{pred("s", api.OpEq, raw("abc")), false},
	{pred("r", api.OpEq, raw("\x00ab")), true},
	{pred("b", api.OpEq, truth(1)), true},
	{pred("b", api.OpEq, truth(0)), false},
	{pred("b", api.OpEq, num(1)), false},
	{pred("x", api.OpEq, num(5)), false},

	{pred("n", api.OpNe, num(5)), false},
	{pred("n", api.OpNe, num(4)), true},
	{pred("n", api.OpNe, text("5")), false},
	{pred("b", api.OpNe, truth(0)), true},
	{pred("b", api.OpNe, num(0)), false},
	{pred("x", api.OpNe, num(5)), false},

	{pred("n", api.OpLt, num(6)), true},
	{pred("n", api.OpLt, num(5)), false},
	{pred("n", api.OpLt, num(4)), false},
	{pred("n", api.OpLt, text("a")), false},
	{pred("s", api.OpLt, text("abca")), true},
	{pred("s", api.OpLt, text("abc")), false},
	{pred("s", api.OpLt, text("b")), true},
	{pred("s", api.OpLt, text("B")), false},
	{pred("s", api.OpLt, raw("b")), false},

	{pred("n", api.OpLe, num(6)), true},
	{pred("n", api.OpLe, num(5)), true},
	{pred("n", api.OpLe, num(4)), false},
	{pred("s", api.OpLe, num(9)), false},
	{pred("x", api.OpLe, num(9)), false},

	{pred("n", api.OpGt, num(6)), false},
	{pred("n", api.OpGt, num(5)), false},
	{pred("n", api.OpGt, num(4)), true},
	{pred("n", api.OpGt, num(-api.MaxInt)), true},
	{pred("s", api.OpGt, num(4)), false},
	{pred("s", api.OpGt, text("ab")), true},
	{pred("r", api.OpGt, raw("")), true},

	{pred("n", api.OpGe, num(6)), false},
	{pred("n", api.OpGe, num(5)), true},
	{pred("n", api.OpGe, num(4)), true},
	{pred("r", api.OpGe, text("")), false},

	{pred("s", api.OpPre, text("")), true},
	{pred("s", api.OpPre, text("ab")), true},
	{pred("S", api.OpPre, text("abc")), true},
	{pred("s", api.OpPre, text("abcd")), false},
	{pred("s", api.OpPre, text("b")), false},
	{pred("s", api.OpPre, text("A")), false},
	{pred("s", api.OpPre, raw("ab")), false},
	{pred("r", api.OpPre, raw("\x00")), true},
	{pred("r", api.OpPre, text("")), false},
	{pred("n", api.OpPre, text("")), false},
	{pred("é", api.OpPre, text("")), true},
	{pred("x", api.OpPre, text("")), false},

	{pred("n", api.OpIn, num(5)), true},
	{pred("n", api.OpIn, num(1), num(5), num(9)), true},
	{pred("n", api.OpIn, num(1), num(5)), true},
	{pred("n", api.OpIn, num(5), num(6)), true},
	{pred("n", api.OpIn, num(4), num(6)), false},
	{pred("n", api.OpIn, text("5")), false},
	{pred("b", api.OpIn, truth(0), truth(1)), true},
	{pred("b", api.OpIn, truth(0)), false},
	{pred("b", api.OpIn, num(1)), false},
	{pred("x", api.OpIn, num(5)), false},
}

// Promise 8.1: Holds, Lets.
func TestHoldsAndLets(t *testing.T) {
	for _, c := range questions {
		if Holds(c.p, attrs) != c.holds || Lets([]api.Pred{c.p}, attrs) != c.holds {
			t.Errorf("%s: %v", Show([]api.Pred{c.p}), Holds(c.p, attrs))
		}
		if Holds(c.p, nil) || Lets([]api.Pred{c.p}, nil) {
			t.Errorf("%s holds of nothing", Show([]api.Pred{c.p}))
		}
		for _, d := range questions {
			if Lets([]api.Pred{c.p, d.p}, attrs) != (c.holds && d.holds) {
				t.Errorf("%s lets by otherwise", Show([]api.Pred{c.p, d.p}))
			}
		}
	}
	if !Lets(nil, attrs) || !Lets(nil, nil) || !Lets([]api.Pred{}, []api.Attr{}) {
		t.Errorf("any lets by all")
	}
	if !Lets(slices.Repeat([]api.Pred{questions[0].p}, api.MaxPreds), attrs) || Lets(slices.Repeat([]api.Pred{questions[0].p}, api.MaxPreds+1), attrs) {
		t.Errorf("how many predicates there may be")
	}
}

// Promise 8.1: nothing holds, if it may not be, or the attributes may not be.
func TestHoldsOfWrong(t *testing.T) {
	for _, p := range wrongPreds() {
		a := []api.Attr{attr(p.Name, num(1))}
		if schema.Attrs(a) && Holds(p, a) || Holds(p, []api.Attr{attr("a", text("a"))}) || Lets([]api.Pred{p}, a) || Lets([]api.Pred{pred("a", api.OpHas), p}, []api.Attr{attr("a", num(1))}) {
			t.Errorf("%v holds", p)
		}
	}
	full := make([]api.Attr, 0, api.MaxFields+1)
	for i := range api.MaxFields + 1 {
		full = append(full, attr("a"+strconv.Itoa(10+i), num(1)))
	}
	if !Holds(pred("a10", api.OpHas), full[:api.MaxFields]) {
		t.Errorf("as many attributes as there may be")
	}
	for _, a := range [][]api.Attr{
		full,
		{attr("a10", num(1)), attr("a10", num(1))},
		{attr("b", num(1)), attr("a10", num(1))},
		{attr("a10", num(1)), attr("b", truth(2))},
		{attr("a10", num(1)), attr("b.c", num(1))},
		{attr("a10", num(1)), {}},
	} {
		if Holds(pred("a10", api.OpHas), a) || Lets([]api.Pred{pred("a10", api.OpHas)}, a) || Lets(nil, a) {
			t.Errorf("something holds of %v", a)
		}
	}
}

// Promise 8.1: Same.
func TestSame(t *testing.T) {
	x := func() []api.Pred {
		return []api.Pred{pred("a", api.OpIn, num(1), num(2)), pred("É", api.OpHas)}
	}
	if !Same(x(), x()) || !Same(nil, []api.Pred{}) || !Same(nil, nil) || !Same([]api.Pred{{L: []api.Value{}}}, []api.Pred{{}}) {
		t.Errorf("they are the same")
	}
	for i, do := range []func(f []api.Pred) []api.Pred{
		func(f []api.Pred) []api.Pred { f[1].Name = "é"; return f },
		func(f []api.Pred) []api.Pred { f[0].Name = "A"; return f },
		func(f []api.Pred) []api.Pred { f[0].Op = api.OpEq; return f },
		func(f []api.Pred) []api.Pred { f[0].L[1].N = 3; return f },
		func(f []api.Pred) []api.Pred { f[0].L[0].Kind = api.KindBool; return f },
		func(f []api.Pred) []api.Pred { f[0].L[0].S = "a"; return f },
		func(f []api.Pred) []api.Pred { f[0].L = f[0].L[:1]; return f },
		func(f []api.Pred) []api.Pred { f[0].L = nil; return f },
		func(f []api.Pred) []api.Pred { f[1].L = []api.Value{{}}; return f },
		func(f []api.Pred) []api.Pred { f[0], f[1] = f[1], f[0]; return f },
		func(f []api.Pred) []api.Pred { return f[:1] },
		func(f []api.Pred) []api.Pred { return append(f, f[1]) },
		func(f []api.Pred) []api.Pred { return nil },
	} {
		if Same(x(), do(x())) || Same(do(x()), x()) {
			t.Errorf("%d: they are not the same", i)
		}
	}
}

// Promise 8.1: Fits.
func TestFits(t *testing.T) {
	l, e := schema.Parse("flag bool!, n int, raw bytes, s text!")
	if e != api.OK {
		t.Fatal(e)
	}
	for s, want := range map[string]api.Errno{
		"any":                           api.OK,
		"has N":                         api.OK,
		"has flag and has raw":          api.OK,
		"FLAG = true":                   api.OK,
		"n in {1, 2} and s prefix \"\"": api.OK,
		"raw >= x''":                    api.OK,
		"has x":                         api.ErrNone,
		"x = 1":                         api.ErrNone,
		"n = \"a\"":                     api.ErrKind,
		"n in {true}":                   api.ErrKind,
		"s prefix x''":                  api.ErrKind,
		"raw = \"a\"":                   api.ErrKind,
		"flag = 1":                      api.ErrKind,
		"n = 1 and x = 1 and n = true":  api.ErrNone,
		"n = 1 and n = true and x = 1":  api.ErrKind,
	} {
		f, _, e := Parse(s)
		if e != api.OK {
			t.Fatalf("Parse(%q): %v", s, e)
		}
		if e := Fits(l, f); e != want {
			t.Errorf("Fits %s: %v", s, e)
		}
	}
	if Fits(nil, nil) != api.OK || Fits(nil, many(1)) != api.ErrNone {
		t.Errorf("no fields")
	}
	for _, p := range wrongPreds() {
		if e := Fits(l, []api.Pred{pred("x", api.OpHas), p}); e != api.ErrArg {
			t.Errorf("Fits of %v: %v", p, e)
		}
	}
	if e := Fits([]api.Field{l[1], l[0]}, nil); e != api.ErrArg {
		t.Errorf("Fits of no schema: %v", e)
	}
	if e := Fits([]api.Field{{}}, many(13)); e != api.ErrArg {
		t.Errorf("Fits of neither: %v", e)
	}
}

// Promises 8.2 and 8.4: what is shown, and that it is read as it was.
func TestShow(t *testing.T) {
	for s, f := range shown() {
		if got := Show(f); got != s {
			t.Errorf("Show: %q, not %q", got, s)
		}
		if got, at, e := Parse(s); e != api.OK || at != name.Runes(s) || !Same(got, f) {
			t.Errorf("Parse(%q): %v, %d, %v", s, got, at, e)
		}
	}
	for _, p := range wrongPreds() {
		if s := Show([]api.Pred{p}); s != "" {
			t.Errorf("Show of %v: %q", p, s)
		}
	}
	if Show(many(api.MaxPreds+1)) != "" {
		t.Errorf("Show of too many")
	}
}

// Promise 8.2: other texts that say a filter.
func TestParse(t *testing.T) {
	for s, want := range map[string]string{
		"  any\n":               "any",
		"ANY":                   "any",
		"aNy ":                  "any",
		"a=1":                   "a = 1",
		"\ta\r\n=\n1 ":          "a = 1",
		"a!=1 AND b<2 aNd c<=3": "a != 1 and b < 2 and c <= 3",
		"a>\"x\" and b>=x'00' and HAS c and has D": "a > \"x\" and b >= x'00' and has c and has D",
		"N IN{3,1}":                     "N in { 1 , 3 }",
		"N In { \"b\" , \"\" , \"a\" }": "N in { \"\" , \"a\" , \"b\" }",
		"a in {true,false}":             "a in { false , true }",
		"s PREFIX \"x\"":                "s prefix \"x\"",
		"s Prefix x'ff'":                "s prefix x'ff'",
		"hAs Has1":                      "has Has1",
		"true=true and has FALSE":       "true = true and has FALSE",
		"has true":                      "has true",
		`price >= 10 and sym in {"b", "a"} and has raw`: `price >= 10 and sym in { "a" , "b" } and has raw`,
	} {
		f, at, e := Parse(s)
		if e != api.OK || at != name.Runes(s) || Show(f) != want {
			t.Errorf("Parse(%q): %s, %d, %v", s, Show(f), at, e)
		}
	}
}

type fail struct {
	at int
	e  api.Errno
}

// Promise 8.2: what is wrong with a text, and where.
func TestParseErrors(t *testing.T) {
	sixteen := "1"
	for i := 2; i <= api.MaxIn; i++ {
		sixteen += "," + strconv.Itoa(i)
	}
	at := len("a in {" + sixteen)
	full := "a = 1" + as(" and b = 1", api.MaxPreds-1)
	end := len(full)
	for s, want := range map[string]fail{
		// Lex's own.
		"a = \xff":              {0, api.ErrForm},
		"é ; a":                 {2, api.ErrForm},
		"a = = ;":               {6, api.ErrForm},
		"a>\"x\"and b":          {2, api.ErrForm},
		"é = 12345678901234567": {4, api.ErrLong},
		"é prefix \"" + as("a", api.MaxValue+1) + "\"": {9, api.ErrLong},
		as("= ", api.MaxTokens+1):                      {600, api.ErrLong},

		// The form.
		"":                   {0, api.ErrForm},
		" \n ":               {3, api.ErrForm},
		" a":                 {2, api.ErrForm},
		"é  ":                {3, api.ErrForm},
		"=":                  {0, api.ErrForm},
		"5":                  {0, api.ErrForm},
		"5 = 5":              {0, api.ErrForm},
		"\"a\" = 5":          {0, api.ErrForm},
		"x'00' = 5":          {0, api.ErrForm},
		"( a = 1 )":          {0, api.ErrForm},
		"and":                {0, api.ErrForm},
		"and = 1":            {0, api.ErrForm},
		"In = 1":             {0, api.ErrForm},
		"prefix = 1":         {0, api.ErrForm},
		"has":                {3, api.ErrForm},
		"has = 1":            {4, api.ErrForm},
		"has has":            {4, api.ErrForm},
		"has ANY":            {4, api.ErrForm},
		"has 5":              {4, api.ErrForm},
		"has a = 1":          {6, api.ErrForm},
		"has a b":            {6, api.ErrForm},
		"has a , has b":      {6, api.ErrForm},
		"any or":             {4, api.ErrForm},
		"any any":            {4, api.ErrForm},
		"any and a = 1":      {4, api.ErrForm},
		"any = 1":            {4, api.ErrForm},
		"a = 1 and any":      {10, api.ErrForm},
		"a = 1 and":          {9, api.ErrForm},
		"a = 1 and and":      {10, api.ErrForm},
		"a = 1 or b":         {6, api.ErrForm},
		"a = 1 b = 1":        {6, api.ErrForm},
		"a = 1 2":            {6, api.ErrForm},
		"a = b":              {4, api.ErrForm},
		"a = and":            {4, api.ErrForm},
		"a = {":              {4, api.ErrForm},
		"a =":                {3, api.ErrForm},
		"a = = 1":            {4, api.ErrForm},
		"a , 1":              {2, api.ErrForm},
		"a ( 1":              {2, api.ErrForm},
		"a has":              {2, api.ErrForm},
		"a and b = 1":        {2, api.ErrForm},
		"a any":              {2, api.ErrForm},
		"a b":                {2, api.ErrForm},
		"a 5":                {2, api.ErrForm},
		"a true":             {2, api.ErrForm},
		"true":               {4, api.ErrForm},
		"true false":         {5, api.ErrForm},
		"a prefix":           {8, api.ErrForm},
		"a prefix b":         {9, api.ErrForm},
		"a prefix = \"b\"":   {9, api.ErrForm},
		"a prefix { \"b\" }": {9, api.ErrForm},
		"a in":               {4, api.ErrForm},
		"a in 5":             {5, api.ErrForm},
		"a in ( 5 )":         {5, api.ErrForm},
		"a in }":             {5, api.ErrForm},
		"a in {":             {6, api.ErrForm},
		"a in { }":           {7, api.ErrForm},
		"a in { b }":         {7, api.ErrForm},
		"a in { , 1 }":       {7, api.ErrForm},
		"a in { 1":           {8, api.ErrForm},
		"a in { 1 2 }":       {9, api.ErrForm},
		"a in { 1 and":       {9, api.ErrForm},
		"a in { 1 {":         {9, api.ErrForm},
		"a in { 1 ,":         {10, api.ErrForm},
		"a in { 1 , }":       {11, api.ErrForm},
		"a in { 1 } }":       {11, api.ErrForm},
		"é = \"é\" é":        {8, api.ErrForm},

		// The kind.
		"a prefix 5":                   {9, api.ErrKind},
		"a prefix true":                {9, api.ErrKind},
		"a < true":                     {4, api.ErrKind},
		"a <= true":                    {5, api.ErrKind},
		"a > false":                    {4, api.ErrKind},
		"é >= false ":                  {5, api.ErrKind},
		"a in {1, true}":               {9, api.ErrKind},
		"a in {\"é\", x'00'":           {11, api.ErrKind},
		"a in {true, 1":                {12, api.ErrKind},
		"a prefix 5 = =":               {9, api.ErrKind},
		"a in {" + sixteen + ", true}": {at + 2, api.ErrKind},
		"a in {1, 1, true}":            {9, api.ErrClash},
		"a in {1, true, 1}":            {9, api.ErrKind},

		// Values that are there already.
		"a in {1, 2, 1}":            {12, api.ErrClash},
		"a in {\"\", \"\"}":         {10, api.ErrClash},
		"a in {true, false, true":   {19, api.ErrClash},
		"a in {" + sixteen + ", 16": {at + 2, api.ErrClash},

		// Too many, or too long.
		"a in {" + sixteen + ", 17}":          {at + 2, api.ErrLong},
		"a in {" + sixteen + ", 17 =":         {at + 2, api.ErrLong},
		"a in {" + sixteen + ", }":            {at + 2, api.ErrForm},
		"a in {" + sixteen + ",":              {at + 1, api.ErrForm},
		full + " and b = 1":                   {end + 5, api.ErrLong},
		full + " and b =":                     {end + 5, api.ErrLong},
		full + " and has é":                   {end + 9, api.ErrLong},
		full + " and true = 1":                {end + 5, api.ErrLong},
		full + " and has":                     {end + 8, api.ErrForm},
		full + " and has and":                 {end + 9, api.ErrForm},
		full + " and":                         {end + 4, api.ErrForm},
		full + " and any":                     {end + 5, api.ErrForm},
		full + " b":                           {end + 1, api.ErrForm},
		as("a", api.MaxName+1) + " = 1":       {0, api.ErrLong},
		as("é", api.MaxName+1):                {0, api.ErrLong},
		"has " + as("é", api.MaxName+1):       {4, api.ErrLong},
		full + " and " + as("a", 41) + " = 1": {end + 5, api.ErrLong},
		"a " + as("a", api.MaxName+1):         {2, api.ErrForm},
	} {
		if f, at, e := Parse(s); at != want.at || e != want.e || f != nil {
			t.Errorf("Parse(%q): %v, %d, %v", s, f, at, e)
		}
	}
}

// Promise 8.2: a filter whose text has more tokens than a text may have is shown, but not read.
func TestParseTooManyTokens(t *testing.T) {
	f := slices.Repeat([]api.Pred{pred("a", api.OpIn, nums(api.MaxIn)...)}, api.MaxPreds)
	s := Show(f)
	if strings.Count(s, " ")+1 <= api.MaxTokens {
		t.Fatalf("%q is too short", s)
	}
	if got, at, e := Parse(s); e != api.ErrLong || got != nil || at != len(strings.Join(strings.Split(s, " ")[:api.MaxTokens], " "))+1 {
		t.Errorf("Parse: %v, %d, %v", got, at, e)
	}
}

// step is where a text stands behind some of its tokens, told by a table of states: another way to read than the program's.
type step struct {
	state  string
	op     string
	values []api.Value
	preds  int
}

// goOn is what becomes of a step by a token.
func (x *step) goOn(token string) api.Errno {
	v, noValue := value.Parse(token)
	fold := name.Fold(token)
	own := fold == "and" || fold == "in" || fold == "has" || fold == "prefix" || fold == "any"
	isName := !own && (noValue != api.OK || v.Kind == api.KindBool) && name.Check(token) != api.ErrForm
	switch x.state + " " + fold {
	case "first any":
		x.state = "over"
		return api.OK
	case "first has", "pred has":
		x.state = "has"
		return api.OK
	case "name =", "name !=", "name <", "name <=", "name >", "name >=", "name prefix":
		x.state, x.op = "value", fold
		return api.OK
	case "name in":
		x.state = "open"
		return api.OK
	case "open {", "more ,":
		x.state = "set"
		return api.OK
	case "more }":
		x.state, x.values = "done", nil
		return api.OK
	case "done and":
		x.state = "pred"
		return api.OK
	}
	switch {
	case isName && (x.state == "first" || x.state == "pred" || x.state == "has"):
		return x.named(token)
	case noValue == api.OK && x.state == "value":
		x.state = "done"
		if v.Kind == api.KindBool && x.op != "=" && x.op != "!=" || x.op == "prefix" && v.Kind == api.KindInt {
			return api.ErrKind
		}
		return api.OK
	case noValue == api.OK && x.state == "set":
		return x.valued(v)
	}
	return api.ErrForm
}

func (x *step) named(token string) api.Errno {
	x.preds++
	if x.preds > api.MaxPreds {
		return api.ErrLong
	}
	if x.state == "has" {
		x.state = "done"
	} else {
		x.state = "name"
	}
	return name.Check(token)
}

func (x *step) valued(v api.Value) api.Errno {
	x.state = "more"
	if len(x.values) > 0 && x.values[0].Kind != v.Kind {
		return api.ErrKind
	}
	if slices.Contains(x.values, v) {
		return api.ErrClash
	}
	x.values = append(x.values, v)
	if len(x.values) > api.MaxIn {
		return api.ErrLong
	}
	return api.OK
}

// judge is what Parse must answer of tokens with a blank between.
func judge(tokens []string) (at int, e api.Errno) {
	x := step{state: "first"}
	for _, token := range tokens {
		if e := x.goOn(token); e != api.OK {
			return at, e
		}
		at += name.Runes(token) + 1
	}
	at = name.Runes(strings.Join(tokens, " "))
	if x.state != "done" && x.state != "over" {
		return at, api.ErrForm
	}
	return at, api.OK
}

// words that texts made by chance are made of.
var words = []string{"and", "AND", "in", "has", "Has", "prefix", "any", "a", "é", "B-1", "true", "false", "1", "2", "-3", `"x"`, `"é"`, "x'00'", "=", "!=", "<", "<=", ">", ">=", "{", "}", ",", "(", ")", as("é", 40), as("é", 41)}

// chance is a filter made by chance.
func chance(draw *rand.Rand) (f []api.Pred) {
	for range draw.Intn(5) {
		kind := 1 + draw.Intn(4)
		p := pred([]string{"a", "A", "b", "é", "true", "c-1"}[draw.Intn(6)], 1+draw.Intn(9))
		for range 1 + draw.Intn(4) {
			p.L = append(p.L, chanceValue(draw, kind))
		}
		switch {
		case p.Op == api.OpHas:
			p.L = nil
		case p.Op == api.OpIn:
			slices.SortFunc(p.L, value.Compare)
			p.L = slices.Compact(p.L)
		default:
			p.L = p.L[:1]
		}
		if Check([]api.Pred{p}) {
			f = append(f, p)
		}
	}
	return f
}

func chanceValue(draw *rand.Rand, kind int) api.Value {
	short := []string{"", "a", "ab", "abc", "b"}[draw.Intn(5)]
	switch kind {
	case api.KindInt:
		return num(draw.Intn(7) - 3)
	case api.KindBool:
		return truth(draw.Intn(2))
	case api.KindText:
		return text(short)
	}
	return raw(short)
}

func chanceAttrs(draw *rand.Rand) (a []api.Attr) {
	for _, s := range []string{"a", "b", "c-1", "true", "É"} {
		if draw.Intn(3) > 0 {
			a = append(a, attr(s, chanceValue(draw, 1+draw.Intn(4))))
		}
	}
	return a
}

// Promise 8.2: texts made by chance, and filters' texts that are spoilt at some places.
func TestParseByChance(t *testing.T) {
	draw := rand.New(rand.NewSource(8))
	count := map[api.Errno]int{}
	for range 50000 {
		tokens := strings.Split(Show(chance(draw)), " ")
		for range draw.Intn(3) {
			at := draw.Intn(len(tokens))
			switch draw.Intn(5) {
			case 0:
				tokens = slices.Insert(tokens, at, words[draw.Intn(len(words))])
			case 1:
				tokens = slices.Concat(tokens[:at], []string{words[draw.Intn(len(words))]}, tokens[at+1:])
			case 2:
				tokens = slices.Concat(tokens, []string{"and"}, tokens)
			case 3:
				tokens = append(tokens[:at:at], tokens[min(at+1, len(tokens)-1):]...)
			case 4:
				tokens = slices.Insert(tokens, at, tokens[at], ",")
			}
		}
		s := strings.Join(tokens, " ")
		wantAt, want := judge(tokens)
		f, at, e := Parse(s)
		if e != want || at != wantAt {
			t.Fatalf("Parse(%q): %d, %v, not %d, %v", s, at, e, wantAt, want)
		}
		if e == api.OK && !Check(f) || e != api.OK && f != nil {
			t.Fatalf("Parse(%q): %v, %v", s, f, e)
		}
		count[e]++
	}
	for _, e := range []api.Errno{api.OK, api.ErrForm, api.ErrKind, api.ErrClash, api.ErrLong} {
		if count[e] < 100 {
			t.Errorf("only %d answers %v", count[e], e)
		}
	}
}

// Promises 8.3 and 8.4: bytes, and that they are read as they were, whatever stands behind.
func TestText(t *testing.T) {
	if s := Text([]api.Pred{pred("a", api.OpEq, num(1)), pred("é", api.OpHas), pred("b", api.OpIn, text(""), text("x"))}); s != "\x03\x01a\x02\x01\x01\x02\x02é\x01\x00\x01b\x09\x02\x02\x00\x02\x01x" {
		t.Errorf("Text: %q", s)
	}
	if s := Text(nil); s != "\x00" {
		t.Errorf("Text of any: %q", s)
	}
	for s, f := range shown() {
		for _, behind := range []string{"", "\x00", "q", "\xff\xff"} {
			if got, rest, e := Read(Text(f) + behind); e != api.OK || rest != behind || !Same(got, f) {
				t.Errorf("%s: Read: %v, %q, %v", s, got, rest, e)
			}
		}
		for i := range len(Text(f)) {
			if got, rest, e := Read(Text(f)[:i]); e != api.ErrShort || got != nil || rest != "" {
				t.Errorf("%s, %d bytes: %v, %q, %v", s, i, got, rest, e)
			}
		}
	}
	for _, p := range wrongPreds() {
		if s := Text([]api.Pred{p}); s != "" {
			t.Errorf("Text of %v: %q", p, s)
		}
	}
	if Text(many(api.MaxPreds+1)) != "" {
		t.Errorf("Text of too many")
	}
}

// bytesOf are the bytes of predicates that need not be; values that may not be stand as they are written in other.
func bytesOf(f []api.Pred, other string) string {
	s := quic.Num(len(f))
	for _, p := range f {
		s += textOf(p.Name) + quic.Num(p.Op) + quic.Num(len(p.L))
		for _, v := range p.L {
			if value.Check(v) {
				s += value.Text(v)
			} else {
				s += other
			}
		}
	}
	return s
}

func textOf(s string) string {
	return quic.Num(len(s)) + s
}

// Promise 8.3: what is wrong with bytes.
func TestReadErrors(t *testing.T) {
	none := api.Value{}
	long := quic.Num(api.MaxText + 1)
	tooMany := pred("a", api.OpIn, nums(api.MaxIn+1)...)
	for i, c := range []struct {
		s    string
		want api.Errno
	}{
		// Of layer 1.
		{"", api.ErrShort},
		{"\x40\x01", api.ErrForm},
		{"\x01", api.ErrShort},
		{"\x01" + long, api.ErrLong},
		{"\x01\x01a\x40\x02", api.ErrForm},
		{"\x01\x01a\x02\x40\x00", api.ErrForm},
		{quic.Num(api.MaxNum), api.ErrShort},
		{"\x01\x01a\x09" + quic.Num(api.MaxNum), api.ErrShort},
		{"\x0d", api.ErrShort},

		// Of layer 3.
		{bytesOf([]api.Pred{pred("a", api.OpEq, none)}, "\x00"), api.ErrKind},
		{bytesOf([]api.Pred{pred("a", api.OpEq, none)}, "\x05\x00"), api.ErrKind},
		{bytesOf([]api.Pred{pred("a", api.OpEq, none)}, "\x02\x01\xff"), api.ErrForm},
		{bytesOf([]api.Pred{pred("a", api.OpEq, none)}, "\x03\x02"), api.ErrForm},

		// These come ahead of what is too many, wherever they stand.
		{bytesOf(many(13), "")[:len(bytesOf(many(13), ""))-1], api.ErrShort},
		{bytesOf(append(many(13), pred("a", api.OpEq, none)), "\x00"), api.ErrKind},
		{bytesOf([]api.Pred{tooMany, pred("a", api.OpEq, none)}, "\x07"), api.ErrKind},
		{bytesOf([]api.Pred{pred("a", api.OpIn, append(nums(17), none)...)}, "\x07"), api.ErrKind},

		// Too many, whether they may be or not.
		{bytesOf(many(13), ""), api.ErrLong},
		{bytesOf(many(300), ""), api.ErrLong},
		{bytesOf(append(many(12), pred("", 77)), ""), api.ErrLong},
		{bytesOf([]api.Pred{tooMany}, ""), api.ErrLong},
		{bytesOf([]api.Pred{pred("", 0), tooMany}, ""), api.ErrLong},
		{bytesOf([]api.Pred{pred("a", api.OpEq, nums(17)...)}, ""), api.ErrLong},
		{bytesOf([]api.Pred{pred("a", api.OpHas, nums(200)...)}, ""), api.ErrLong},
		{bytesOf([]api.Pred{pred("a", api.OpHas), pred("a", api.OpIn, append(nums(16), num(0))...)}, ""), api.ErrLong},

		// What may not be.
		{bytesOf([]api.Pred{pred("a", api.OpEq, nums(16)...)}, ""), api.ErrForm},
		{bytesOf([]api.Pred{pred("a", api.OpEq, nums(2)...)}, ""), api.ErrForm},
		{bytesOf([]api.Pred{pred("a", api.MaxNum)}, ""), api.ErrForm},
		{bytesOf([]api.Pred{pred(as("a", api.MaxText), api.OpHas)}, ""), api.ErrForm},
		{bytesOf(append(many(11), pred("and", api.OpHas)), ""), api.ErrForm},
	} {
		if f, rest, e := Read(c.s); e != c.want || f != nil || rest != "" {
			t.Errorf("%d: Read(%q): %v, %q, %v", i, c.s, f, rest, e)
		}
	}
	for _, p := range wrongPreds() {
		// What bytes can't have, or what is told by another error.
		if p.Op < 0 || p.Op > api.MaxNum || len(p.L) > api.MaxIn || slices.ContainsFunc(p.L, func(v api.Value) bool { return !value.Check(v) }) {
			continue
		}
		for _, f := range [][]api.Pred{{p}, {pred("a", api.OpHas), p}} {
			if got, rest, e := Read(bytesOf(f, "")); e != api.ErrForm || got != nil || rest != "" {
				t.Errorf("Read of %v: %v, %q, %v", f, got, rest, e)
			}
		}
	}
}

// Promise 8.4, of filters and attributes made by chance.
func TestFollows(t *testing.T) {
	draw := rand.New(rand.NewSource(9))
	let := 0
	for range 20000 {
		f, g, a := chance(draw), chance(draw), chanceAttrs(draw)
		if got, _, e := Parse(Show(f)); e != api.OK || !Same(got, f) {
			t.Fatalf("%s is read as %s, %v", Show(f), Show(got), e)
		}
		if got, rest, e := Read(Text(f) + Text(g)); e != api.OK || rest != Text(g) || !Same(got, f) {
			t.Fatalf("the bytes of %s are read as %s, %v", Show(f), Show(got), e)
		}
		if Lets(slices.Concat(f, g), a) != (Lets(f, a) && Lets(g, a)) {
			t.Fatalf("%s and %s together let by otherwise", Show(f), Show(g))
		}
		if !Lets(f, a) {
			continue
		}
		let++
		for _, x := range chanceAttrs(draw) {
			if _, is := schema.Get(a, x.Name); !is {
				a = append(a, x)
			}
		}
		slices.SortFunc(a, func(x, y api.Attr) int { return name.Compare(x.Name, y.Name) })
		if !Lets(f, a) {
			t.Fatalf("%s lets %v by no more", Show(f), a)
		}
	}
	if let < 1000 {
		t.Errorf("only %d were let by", let)
	}
}

// R3: what is handed in is not changed, and what is answered is new.
func TestMemory(t *testing.T) {
	f := []api.Pred{pred("a", api.OpIn, num(1), num(2)), pred("b", api.OpHas)}
	a := []api.Attr{attr("a", num(1)), attr("b", num(2))}
	l := []api.Field{{Name: "a", Kind: api.KindInt}, {Name: "b", Kind: api.KindInt}}
	Check(f)
	Holds(f[0], a)
	Lets(f, a)
	Fits(l, f)
	Same(f, f)
	first, second := Show(f), Text(f)
	if first != "a in { 1 , 2 } and has b" || Show(f) != first || Text(f) != second || !Lets(f, a) || Fits(l, f) != api.OK {
		t.Errorf("%v, %v, %v", f, a, l)
	}
	for _, read := range []func() []api.Pred{
		func() []api.Pred { f, _, _ := Parse(first); return f },
		func() []api.Pred { f, _, _ := Read(second); return f },
	} {
		x, y := read(), read()
		clear(x[0].L)
		clear(x)
		if !Same(y, f) || !Same(read(), f) {
			t.Errorf("an answer shares memory with another one")
		}
	}
}

func FuzzParse(f *testing.F) {
	for s := range shown() {
		f.Add(s)
	}
	f.Fuzz(func(t *testing.T, s string) {
		got, at, e := Parse(s)
		if e != api.OK {
			if got != nil || at < 0 || at > max(0, name.Runes(s)) {
				t.Errorf("Parse(%q): %v, %d, %v", s, got, at, e)
			}
			return
		}
		if again, _, e := Parse(Show(got)); e != api.OK || !Same(got, again) || at != name.Runes(s) {
			t.Errorf("Parse(%q): %v, %d; again: %v, %v", s, got, at, again, e)
		}
	})
}

func FuzzRead(f *testing.F) {
	for _, x := range shown() {
		f.Add(Text(x))
	}
	f.Fuzz(func(t *testing.T, s string) {
		got, rest, e := Read(s)
		if e != api.OK && (got != nil || rest != "") || e == api.OK && (Text(got)+rest != s || !Check(got)) {
			t.Errorf("Read(%q): %v, %q, %v", s, got, rest, e)
		}
	})
}
