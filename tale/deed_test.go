package tale

import (
	"math"
	"math/rand"
	"slices"
	"strconv"
	"strings"
	"testing"

	"caduceus/api"
	"caduceus/filter"
	"caduceus/name"
	"caduceus/schema"
)

func intOf(n int) api.Value     { return api.Value{Kind: api.KindInt, N: n} }
func textOf(s string) api.Value { return api.Value{Kind: api.KindText, S: s} }

// callOf is a call at node 1, in session 2.
func callOf(kind int, change func(c *api.Call)) api.Deed {
	d := api.Deed{Kind: api.DeedCall, Node: 1, C: api.Call{Kind: kind, Session: 2}}
	if change != nil {
		change(&d.C)
	}
	return d
}

// lines of deeds, at least one of each form.
func lines() map[string]api.Deed {
	called := func(s string) func(c *api.Call) { return func(c *api.Call) { c.Name = s } }
	counted := func(n int) func(c *api.Call) { return func(c *api.Call) { c.N = n } }
	own := []api.Field{{Name: "a", Kind: api.KindInt, Must: true}, {Name: "b", Kind: api.KindText}}
	f := []api.Pred{{Name: "a", Op: api.OpGt, L: []api.Value{intOf(2)}}, {Name: "b", Op: api.OpPre, L: []api.Value{textOf("x and y")}}}
	attrs := []api.Attr{{Name: "A", V: intOf(-5)}, {Name: "b", V: textOf("x y")}, {Name: "c", V: api.Value{Kind: api.KindBool, N: 1}}, {Name: "d", V: api.Value{Kind: api.KindBytes, S: "\x00\xff"}}}
	return map[string]api.Deed{
		"call 1 open 7":                                   {Kind: api.DeedCall, Node: 1, C: api.Call{Kind: api.CallOpen, N: 7}},
		"call 1 close 2":                                  callOf(api.CallClose, nil),
		"call 1 reg 2 News - -":                           callOf(api.CallReg, called("News")),
		"call 1 reg 2 Golf NEWS -":                        callOf(api.CallReg, func(c *api.Call) { c.Name, c.Parent = "Golf", "NEWS" }),
		"call 1 reg 2 a.b c a int!, b text":               callOf(api.CallReg, func(c *api.Call) { c.Name, c.Parent, c.Own = "a.b", "c", own }),
		"call 1 adv 2 Émile.x-1":                          callOf(api.CallAdv, called("Émile.x-1")),
		"call 1 withdraw 2 _":                             callOf(api.CallWithdraw, called("_")),
		"call 1 sub 2 News any":                           callOf(api.CallSub, called("News")),
		`call 1 sub 2 News a > 2 and b prefix "x and y"`:  callOf(api.CallSub, func(c *api.Call) { c.Name, c.F = "News", f }),
		"call 1 unsub 2 3":                                callOf(api.CallUnsub, counted(3)),
		"call 1 pub 2 News -":                             callOf(api.CallPub, called("News")),
		`call 1 pub 2 News A=-5 b="x y" c=true d=x'00ff'`: callOf(api.CallPub, func(c *api.Call) { c.Name, c.Attrs = "News", attrs }),
		"call 1 poll 2 -9":                                callOf(api.CallPoll, counted(-9)),
		"call 1 over 2 0":                                 callOf(api.CallOver, nil),
		"come 1 2 0":                                      {Kind: api.DeedCome, Node: 1, To: 2},
		"lose 1 2 3":                                      {Kind: api.DeedLose, Node: 1, To: 2, I: 3},
		"twice 15 -2 400":                                 {Kind: api.DeedTwice, Node: 15, To: -2, I: 400},
		"tick 3":                                          {Kind: api.DeedTick, Node: 3},
		"crash 0":                                         {Kind: api.DeedCrash},
		"rise -1":                                         {Kind: api.DeedRise, Node: -1},
		"learn 999999999999999999":                        {Kind: api.DeedLearn, Node: 999999999999999999},
		"apart 1 2":                                       {Kind: api.DeedApart, Node: 1, To: 2, On: true},
		"join 1 -999999999999999999":                      {Kind: api.DeedApart, Node: 1, To: -999999999999999999},
		"calm":                                            {Kind: api.DeedCalm},
		"call 16 close -1":                                {Kind: api.DeedCall, Node: 16, C: api.Call{Kind: api.CallClose, Session: -1}},
		"call 1 adv 2 call":                               callOf(api.CallAdv, called("call")),
		"call 1 sub 2 a true = true": callOf(api.CallSub, func(c *api.Call) {
			c.Name, c.F = "a", []api.Pred{{Name: "true", Op: api.OpEq, L: []api.Value{{Kind: 3, N: 1}}}}
		}),
		"call 1 pub 2 a and=1 true=2": callOf(api.CallPub, func(c *api.Call) {
			c.Name, c.Attrs = "a", []api.Attr{{Name: "and", V: intOf(1)}, {Name: "true", V: intOf(2)}}
		}),
	}
}

// Promise 23.1: each form, written and read.
func TestLines(t *testing.T) {
	seen := map[[2]int]int{}
	for s, d := range lines() {
		if got, e := Show(d); got != s || e != api.OK {
			t.Errorf("Show(%+v): %q, %v", d, got, e)
		}
		if got, e := Read(s); !same(got, d) || e != api.OK {
			t.Errorf("Read(%q): %+v, %v", s, got, e)
		}
		seen[[2]int{d.Kind, d.C.Kind}]++
	}
	for kind := api.DeedCome; kind <= api.DeedCalm; kind++ {
		if seen[[2]int{kind}] == 0 {
			t.Errorf("no line of deed %d", kind)
		}
	}
	for kind := api.CallOpen; kind <= api.CallOver; kind++ {
		if seen[[2]int{api.DeedCall, kind}] == 0 {
			t.Errorf("no line of call %d", kind)
		}
	}
}

// others are changes of a deed, each of one part.
func others() []func(d *api.Deed) {
	return []func(d *api.Deed){
		func(d *api.Deed) { d.Kind++ },
		func(d *api.Deed) { d.Node++ },
		func(d *api.Deed) { d.To++ },
		func(d *api.Deed) { d.I-- },
		func(d *api.Deed) { d.On = !d.On },
		func(d *api.Deed) { d.C.Kind++ },
		func(d *api.Deed) { d.C.Session++ },
		func(d *api.Deed) { d.C.Name += "x" },
		func(d *api.Deed) { d.C.Parent += "x" },
		func(d *api.Deed) { d.C.Own = append(slices.Clone(d.C.Own), api.Field{Name: "z", Kind: api.KindBool}) },
		func(d *api.Deed) { d.C.F = append(slices.Clone(d.C.F), api.Pred{Name: "z", Op: api.OpHas}) },
		func(d *api.Deed) { d.C.Attrs = append(slices.Clone(d.C.Attrs), api.Attr{Name: "z", V: intOf(1)}) },
		func(d *api.Deed) { d.C.N-- },
	}
}

// Promise 23.1: a line says just its deed: with one part that is other, it is another line, or there is none.
func TestLinesSayAll(t *testing.T) {
	for s, d := range lines() {
		shown := 0
		for i, change := range others() {
			x := d
			change(&x)
			got, e := Show(x)
			if e == api.ErrArg && got == "" {
				continue
			}
			shown++
			if back, _ := Read(got); e != api.OK || got == s || !same(back, x) {
				t.Errorf("%q with change %d: %q, %v", s, i, got, e)
			}
		}
		// A line has at most as many parts that may be changed alone.
		if words := strings.Count(s, " ") + 2; shown > words {
			t.Errorf("%q: of %d others there is a line", s, shown)
		}
	}
	x := api.Deed{Kind: api.DeedTick, Node: 1}
	x.C.F, x.C.Own, x.C.Attrs = []api.Pred{}, []api.Field{}, []api.Attr{}
	if s, e := Show(x); s != "tick 1" || e != api.OK {
		t.Errorf("with empty lists: %q, %v", s, e)
	}
}

// Promise 23.1: deeds of which no line says all.
func TestShowRefuses(t *testing.T) {
	long := strings.Repeat("a", api.MaxName)
	call := func(kind int, change func(c *api.Call)) api.Deed { return callOf(kind, change) }
	for i, d := range []api.Deed{
		{}, {Kind: 11}, {Kind: -1}, {Kind: api.DeedCall}, {Kind: api.DeedCall, C: api.Call{Kind: 11}}, {Kind: api.DeedCall, C: api.Call{Kind: -1}},
		{Kind: api.DeedTick, Node: 1000000000000000000}, {Kind: api.DeedTick, Node: -1000000000000000000}, {Kind: api.DeedTick, Node: math.MinInt}, {Kind: api.DeedTick, Node: math.MaxInt},
		{Kind: api.DeedCome, I: math.MaxInt}, {Kind: api.DeedApart, To: math.MaxInt, On: true}, {Kind: api.DeedCalm, On: true}, {Kind: api.DeedCalm, C: api.Call{Kind: api.CallOpen}},
		{Kind: api.DeedCall, Node: 1, C: api.Call{Kind: api.CallOpen, N: math.MaxInt}}, call(api.CallClose, func(c *api.Call) { c.Session = math.MinInt }),
		call(api.CallAdv, nil), call(api.CallAdv, func(c *api.Call) { c.Name = "a..b" }), call(api.CallAdv, func(c *api.Call) { c.Name = "a b" }), call(api.CallAdv, func(c *api.Call) { c.Name = long + "a" }), call(api.CallAdv, func(c *api.Call) { c.Name = "\xff" }),
		call(api.CallReg, func(c *api.Call) { c.Name, c.Parent = "a", "-" }), call(api.CallReg, func(c *api.Call) { c.Name, c.Parent = "a", "b c" }), call(api.CallReg, func(c *api.Call) { c.Name, c.Parent = "a", "1" }), call(api.CallReg, func(c *api.Call) { c.Name = "-" }),
		call(api.CallReg, func(c *api.Call) {
			c.Name, c.Own = "a", []api.Field{{Name: "b", Kind: api.KindInt}, {Name: "a", Kind: api.KindInt}}
		}), call(api.CallReg, func(c *api.Call) { c.Name, c.Own = "a", make([]api.Field, 1) }), call(api.CallReg, func(c *api.Call) { c.Name, c.Own = "a", make([]api.Field, 25) }),
		call(api.CallSub, func(c *api.Call) { c.Name, c.F = "a", make([]api.Pred, 1) }), call(api.CallSub, func(c *api.Call) { c.Name, c.F = "a", []api.Pred{{Name: "any", Op: api.OpHas}} }), call(api.CallSub, func(c *api.Call) { c.Name, c.F = "a", slices.Repeat([]api.Pred{{Name: "a", Op: api.OpHas}}, 13) }),
		call(api.CallPub, func(c *api.Call) { c.Name, c.Attrs = "a", make([]api.Attr, 1) }), call(api.CallPub, func(c *api.Call) {
			c.Name, c.Attrs = "a", []api.Attr{{Name: "b", V: intOf(1)}, {Name: "a", V: intOf(1)}}
		}), call(api.CallPub, func(c *api.Call) {
			c.Name, c.Attrs = "a", []api.Attr{{Name: "b", V: intOf(1)}, {Name: "B", V: intOf(1)}}
		}),
	} {
		if s, e := Show(d); s != "" || e != api.ErrArg {
			t.Errorf("%d: Show(%+v): %q, %v", i, d, s, e)
		}
	}
	if s, e := Show(call(api.CallAdv, func(c *api.Call) { c.Name = long })); s != "call 1 adv 2 "+long || e != api.OK {
		t.Errorf("the longest name: %q, %v", s, e)
	}
}

// Promise 23.1: texts that are the line of no deed.
func TestReadRefuses(t *testing.T) {
	for _, s := range []string{
		"", " ", "#", "# calm", "\n", "calm\n", " calm", "calm ", "Calm", "CALM", "calm 1", "calmcalm", "call", "call ", "call 1", "call 1 ", "call 1 open", "call 1 open ", "call  1 open 5", "call 1  open 5", "call 1 open  5", "call 1 open 5 ", "call 1 open 5 6",
		"call 1 OPEN 5", "call x open 5", "call 1 opens 5", "call NODE open N", "tick NODE", "come NODE TO I", "tick", "tick ", "tick x", "tick 01", "tick 00", "tick -0", "tick -01", "tick +1", "tick --1", "tick 1.0", "tick 1_0", "tick 0x1", "tick ١", "tick 1000000000000000000", "tick -1000000000000000000", "tick 99999999999999999999999999", "tick -", "tick 1 2", "tick\t1",
		"come 1 2", "come 1 2 3 4", "come 1 2 ", "lose 1", "twice 1 2 x", "crash", "rise 1 1", "learn", "apart 1", "apart 1 2 3", "join 1 2 on", "stop 1", "call 1 close", "call 1 close 1 2", "call 1 stop 1",
		"call 1 reg 1 News", "call 1 reg 1 News -", "call 1 reg 1 News - ", "call 1 reg 1 1 - -", "call 1 reg 1 - - -", "call 1 reg 1 News  -", "call 1 reg 1 News 1 -", "call 1 reg 1 News - - ", "call 1 reg 1 News - a", "call 1 reg 1 News - a int,b text", "call 1 reg 1 News - b text, a int", "call 1 reg 1 News - a  int", "call 1 reg 1 News - a int ", "call 1 reg 1 News - any",
		"call 1 adv 1", "call 1 adv 1 ", "call 1 adv 1 a..b", "call 1 adv 1 a b", "call 1 adv 1 " + strings.Repeat("a", 41), "call 1 withdraw 1 -", "call 1 adv 1 \xff",
		"call 1 sub 1 News", "call 1 sub 1 News ", "call 1 sub 1 News ANY", "call 1 sub 1 News any ", "call 1 sub 1 News  any", "call 1 sub 1 News -", "call 1 sub 1 News a > 2 ", "call 1 sub 1 News a>2", "call 1 sub 1 News a > 2 AND b > 3", "call 1 sub 1 News a > 2  and b > 3", "call 1 sub 1 News a > 2 and", "call 1 sub 1 News a > 2 and ", "call 1 sub 1 News and a > 2", "call 1 sub 1 News  and a > 2",
		"call 1 sub 1 News a > 2 and and b > 3", "call 1 sub 1 News a > 2 and  and b > 3", "call 1 sub 1 News any and a > 2", "call 1 sub 1 News a > 2 and any", "call 1 sub 1 News any and any", "call 1 sub 1 News a in { 2 , 1 }", "call 1 sub 1 News a in {1}", "call 1 sub 1 News a in { 1 , 1 }", "call 1 sub 1 News a = \"x and b = 1", "call 1 sub 1 News a = \"x\\\" and b = 1", "call 1 sub 1 News a > 2 or b > 3", "call 1 sub 1 News a prefix 5", "call 1 sub 1 News a\n> 2", "call 1 sub 1 News \"", "call 1 sub 1 News a = \"\\",
		"call 1 sub 1 News " + strings.Repeat("has a and ", 12) + "has a", "call 1 sub 1 News a in { " + strings.Repeat("1 , ", 16) + "2 }",
		"call 1 unsub 1", "call 1 unsub 1 x", "call 1 poll 1 1 1", "call 1 over 1 01",
		"call 1 pub 1 News", "call 1 pub 1 News ", "call 1 pub 1 News  -", "call 1 pub 1 News - ", "call 1 pub 1 News a", "call 1 pub 1 News a=", "call 1 pub 1 News =1", "call 1 pub 1 News a = 1", "call 1 pub 1 News a=1 ", "call 1 pub 1 News a=1  b=2", "call 1 pub 1 News b=2 a=1", "call 1 pub 1 News a=1 A=2", "call 1 pub 1 News a.b=1", "call 1 pub 1 News a=01", "call 1 pub 1 News a=1b=2", "call 1 pub 1 News - a=1", "call 1 pub 1 News a=1 -", "call 1 pub 1 News a=\"x", "call 1 pub 1 News a=9007199254740992", "call 1 pub 1 News a=\"\n\"",
	} {
		if d, e := Read(s); e != api.ErrForm || !same(d, api.Deed{}) {
			t.Errorf("Read(%q): %+v, %v", s, d, e)
		}
	}
}

// Promise 23.1: the greatest filter has a line, though its text has more tokens than filter.Parse takes.
func TestGreatestFilter(t *testing.T) {
	var l []api.Value
	for i := range api.MaxIn {
		l = append(l, textOf(strings.Repeat(string(rune('a'+i)), api.MaxValue-7)+`" and \`))
	}
	f := slices.Repeat([]api.Pred{{Name: strings.Repeat("x", api.MaxName), Op: api.OpIn, L: l}}, api.MaxPreds)
	if _, _, e := filter.Parse(filter.Show(f)); e != api.ErrLong {
		t.Errorf("filter.Parse: %v", e)
	}
	d := callOf(api.CallSub, func(c *api.Call) { c.Name, c.F = "News", f })
	s, e := Show(d)
	if e != api.OK || s != "call 1 sub 2 News "+filter.Show(f) {
		t.Fatalf("Show: %d bytes, %v", len(s), e)
	}
	if got, e := Read(s); e != api.OK || !same(got, d) {
		t.Errorf("Read: %+v, %v", got, e)
	}
	if _, e := Read(s + " and has a"); e != api.ErrForm {
		t.Errorf("with one more: %v", e)
	}
}

// Promise 23.1: the ATTRS of attributes.
func TestAttrs(t *testing.T) {
	for s, l := range map[string][]api.Attr{
		"-":                                nil,
		"a=0":                              {{Name: "a", V: intOf(0)}},
		`-a="-" b=""`:                      nil,
		`B="= \"" é=1`:                     {{Name: "B", V: textOf(`= "`)}, {Name: "é", V: intOf(1)}},
		"a=x'' b=false c=9007199254740991": {{Name: "a", V: api.Value{Kind: api.KindBytes}}, {Name: "b", V: api.Value{Kind: api.KindBool}}, {Name: "c", V: intOf(api.MaxInt)}},
	} {
		if s != "-" && l == nil {
			if got, e := ReadAttrs(s); e != api.ErrForm || got != nil {
				t.Errorf("ReadAttrs(%q): %v, %v", s, got, e)
			}
			continue
		}
		if got := Attrs(l); got != s {
			t.Errorf("Attrs(%v): %q, not %q", l, got, s)
		}
		if got, e := ReadAttrs(s); e != api.OK || !slices.Equal(got, l) {
			t.Errorf("ReadAttrs(%q): %v, %v", s, got, e)
		}
	}
	var most []api.Attr
	for i := range api.MaxFields {
		most = append(most, api.Attr{Name: "n" + strconv.Itoa(100+i), V: textOf(strings.Repeat("\x01", api.MaxValue))})
	}
	if got, e := ReadAttrs(Attrs(most)); e != api.OK || !slices.Equal(got, most) {
		t.Errorf("as many as there may be: %d, %v", len(got), e)
	}
	if got, e := ReadAttrs(Attrs(most) + " o=1"); e != api.ErrForm || got != nil {
		t.Errorf("one more: %v, %v", got, e)
	}
	for i, l := range [][]api.Attr{
		append(slices.Clone(most), api.Attr{Name: "o", V: intOf(1)}), {{Name: "a"}}, {{Name: "", V: intOf(1)}}, {{Name: "a.b", V: intOf(1)}}, {{Name: "a", V: intOf(api.MaxInt + 1)}}, {{Name: "a", V: textOf("\xff")}},
		{{Name: "b", V: intOf(1)}, {Name: "a", V: intOf(1)}}, {{Name: "a", V: intOf(1)}, {Name: "A", V: intOf(2)}},
	} {
		if got := Attrs(l); got != "" {
			t.Errorf("%d: Attrs: %q", i, got)
		}
	}
	for _, s := range []string{"", " ", "--", "- ", " -", "a", "a=1 ", " a=1", "a=1 b", "a=1\nb=2", "a=tru", "a=truec", "a=x'0'", "a==1", "a=1=2", "1=1"} {
		if got, e := ReadAttrs(s); e != api.ErrForm || got != nil {
			t.Errorf("ReadAttrs(%q): %v, %v", s, got, e)
		}
	}
}

// some is one of several things.
func some[T any](r *rand.Rand, l ...T) T { return l[r.Intn(len(l))] }

func someNumber(r *rand.Rand) int {
	return some(r, 0, 1, 2, -1, 15, 16, 999999999999999999, 1000000000000000000, -999999999999999999, math.MinInt, r.Intn(1000)-500)
}

func someText(r *rand.Rand) string {
	var out strings.Builder
	for range r.Intn(6) {
		out.WriteString(some(r, "a", "é", `"`, `\`, " and ", " ", "=", "-", "\n", "\x00", "}", ",", "any", "#"))
	}
	return out.String()
}

func someName(r *rand.Rand) string {
	return some(r, "a", "B", "News", "News.Sport", "é", "and", "any", "true", "x-1", "", "-", "1", "a b", "a..b")
}

func someValue(r *rand.Rand) api.Value {
	return some(r, intOf(r.Intn(9)-4), textOf(someText(r)), api.Value{Kind: api.KindBool, N: r.Intn(2)}, api.Value{Kind: api.KindBytes, S: someText(r)}, api.Value{Kind: r.Intn(6), N: r.Intn(3)})
}

func somePred(r *rand.Rand) api.Pred {
	p := api.Pred{Name: some(r, "a", "b", "true", "False", "é", someName(r)), Op: r.Intn(11)}
	if p.Op == api.OpHas {
		return p
	}
	for range some(r, 1, 1, 2, 3) {
		p.L = append(p.L, some(r, someValue(r), intOf(r.Intn(3)+3*len(p.L)), textOf(someText(r))))
	}
	if p.Op != api.OpIn {
		p.L = p.L[:1]
	}
	return p
}

// someDeed is a deed that may have a line.
func someDeed(r *rand.Rand) api.Deed {
	d := api.Deed{Kind: some(r, api.DeedCall, api.DeedCall, r.Intn(12)), Node: someNumber(r)}
	if r.Intn(4) > 0 {
		d.Node = r.Intn(5)
	}
	if d.Kind != api.DeedCall {
		d.To, d.I, d.On = some(r, 0, 2, someNumber(r)), some(r, 0, 0, someNumber(r)), r.Intn(3) == 0
		return d
	}
	c := &d.C
	c.Kind, c.Session, c.N = r.Intn(12), some(r, 0, 1, 2), some(r, 0, 0, 3, someNumber(r))
	if c.Kind == api.CallOpen {
		c.Session = 0
	}
	if c.Kind >= api.CallReg && c.Kind <= api.CallSub || c.Kind == api.CallPub {
		c.N, c.Name = 0, some(r, "News", someName(r))
	}
	switch c.Kind {
	case api.CallReg:
		c.Parent, c.Own = some(r, "", "News", someName(r)), []api.Field{{Name: someName(r), Kind: r.Intn(6), Must: r.Intn(2) == 0}, {Name: "x", Kind: 1 + r.Intn(4)}}[r.Intn(3)*2/3:]
	case api.CallSub:
		for range r.Intn(5) {
			c.F = append(c.F, somePred(r))
		}
	case api.CallPub:
		for i := range r.Intn(4) {
			c.Attrs = append(c.Attrs, api.Attr{Name: some(r, string(rune('a'+i)), someName(r)), V: someValue(r)})
		}
	}
	return d
}

// mayBeSaid tells whether a deed has a line, by what the document says of its parts.
func mayBeSaid(d api.Deed) bool {
	number := func(n int) bool { return n > -1000000000000000000 && n < 1000000000000000000 }
	bare := d
	bare.Kind, bare.Node, bare.C.Kind = 0, 0, 0
	if d.Kind != api.DeedCall {
		switch d.Kind {
		case api.DeedCome, api.DeedLose, api.DeedTwice:
			bare.To, bare.I = 0, 0
		case api.DeedApart:
			bare.To, bare.On = 0, false
		}
		return d.Kind > api.DeedCall && d.Kind <= api.DeedCalm && d.C.Kind == 0 && number(d.Node) && number(d.To) && number(d.I) && same(bare, api.Deed{}) && (d.Kind != api.DeedCalm || d.Node == 0)
	}
	c := d.C
	if c.Kind != api.CallOpen {
		bare.C.Session = 0
	}
	named := false
	switch c.Kind {
	case api.CallOpen, api.CallUnsub, api.CallPoll, api.CallOver:
		bare.C.N = 0
	case api.CallReg:
		named, bare.C.Parent, bare.C.Own = true, "", nil
	case api.CallAdv, api.CallWithdraw:
		named = true
	case api.CallSub:
		named, bare.C.F = true, nil
	case api.CallPub:
		named, bare.C.Attrs = true, nil
	}
	if named {
		bare.C.Name = ""
	}
	return c.Kind >= api.CallOpen && c.Kind <= api.CallOver && number(d.Node) && number(c.Session) && number(c.N) && same(bare, api.Deed{}) &&
		(!named || name.Check(c.Name) == api.OK) && (c.Parent == "" || name.Check(c.Parent) == api.OK) && schema.Check(c.Own) && filter.Check(c.F) && schema.Attrs(c.Attrs)
}

// Promises 23.1 and 23.3: of any deeds those that may be said are shown, and read as they were; in one line alone.
func TestAnyDeeds(t *testing.T) {
	r := rand.New(rand.NewSource(23))
	said := map[[2]int]int{}
	for range 60000 {
		d := someDeed(r)
		s, e := Show(d)
		if (e == api.OK) != mayBeSaid(d) || e != api.OK && (e != api.ErrArg || s != "") {
			t.Fatalf("Show(%+v): %q, %v", d, s, e)
		}
		if e != api.OK {
			continue
		}
		said[[2]int{d.Kind, d.C.Kind}]++
		if got, e := Read(s); e != api.OK || !same(got, d) || strings.Contains(s, "\n") {
			t.Fatalf("Read(%q): %+v, %v, not %+v", s, got, e, d)
		}
		spoilt := spoil(r, s)
		if got, e := Read(spoilt); e == api.OK {
			if back, e := Show(got); e != api.OK || back != spoilt {
				t.Fatalf("Read(%q): %+v, which is %q, %v", spoilt, got, back, e)
			}
		} else if e != api.ErrForm || !same(got, api.Deed{}) {
			t.Fatalf("Read(%q): %+v, %v", spoilt, got, e)
		}
	}
	if len(said) != 19 {
		t.Errorf("of these kinds deeds were said: %v", said)
	}
}

// spoil is a text with a piece put in, taken away, or turned.
func spoil(r *rand.Rand, s string) string {
	at := r.Intn(len(s) + 1)
	rest := s[at:]
	if rest != "" && r.Intn(2) == 0 {
		rest = rest[1:]
	}
	return s[:at] + some(r, "", "", " ", "  ", "0", "1", "-", "a", "A", "=", `"`, `\`, ",", " and ", "any", "{", "}", "\n", "\xff", "x'00'", "#") + rest
}

// R1: any bytes are answered.
func TestAnyBytes(t *testing.T) {
	r := rand.New(rand.NewSource(5))
	for range 20000 {
		b := make([]byte, r.Intn(12))
		for i := range b {
			b[i] = byte(r.Intn(256))
		}
		for _, front := range []string{"", "call ", "call 1 sub 1 a ", "call 1 pub 1 a ", "call 1 reg 1 a - ", "tick "} {
			s := front + string(b)
			if d, e := Read(s); e == api.OK {
				if back, e := Show(d); e != api.OK || back != s {
					t.Fatalf("Read(%q): %+v", s, d)
				}
			}
		}
		if l, e := ReadAttrs(string(b)); e == api.OK && Attrs(l) != string(b) {
			t.Fatalf("ReadAttrs(%q): %v", b, l)
		}
	}
}
