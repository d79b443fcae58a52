package cover

import (
	"math"
	"math/rand"
	"reflect"
	"slices"
	"strings"
	"testing"

	"caduceus/api"
	"caduceus/filter"
	"caduceus/name"
)

func num(n int) api.Value     { return api.Value{Kind: api.KindInt, N: n} }
func text(s string) api.Value { return api.Value{Kind: api.KindText, S: s} }
func truth(n int) api.Value   { return api.Value{Kind: api.KindBool, N: n} }
func raw(s string) api.Value  { return api.Value{Kind: api.KindBytes, S: s} }

func values(l ...api.Value) []api.Value { return l }

func pred(title string, op int, l ...api.Value) api.Pred {
	return api.Pred{Name: title, Op: op, L: l}
}

// nums: that many integers, from the first one on.
func nums(first, count int) (l []api.Value) {
	for i := range count {
		l = append(l, num(first+i))
	}
	return l
}

// say reads a filter.
func say(t testing.TB, s string) []api.Pred {
	f, _, e := filter.Parse(s)
	if e != api.OK {
		t.Fatalf("%q: %v", s, e)
	}
	return f
}

// wrongFilters: what is no filter.
func wrongFilters() [][]api.Pred {
	return [][]api.Pred{
		{{}},
		{pred("a", api.OpHas), {}},
		{pred("a.b", api.OpHas)},
		{pred("and", api.OpHas)},
		{pred("a", api.OpEq)},
		{pred("a", api.OpHas, num(1))},
		{pred("a", api.OpIn, num(2), num(1))},
		{pred("a", api.OpIn)},
		{pred("a", api.OpLt, truth(1))},
		{pred("a", api.OpPre, num(1))},
		{pred("a", api.OpEq, num(api.MaxInt+1))},
		{pred("a", 99, num(1))},
		slices.Repeat([]api.Pred{pred("a", api.OpHas)}, api.MaxPreds+1),
	}
}

func none(title string) api.Want { return api.Want{Name: title, None: true} }

// Promise 9.1: Wants, each step by which one is made, and how it is settled.
func TestWants(t *testing.T) {
	a := func(w api.Want) []api.Want {
		w.Name = "a"
		return []api.Want{w}
	}
	nothing := a(none("a"))
	ints := func(w api.Want) []api.Want {
		w.Kind = api.KindInt
		return a(w)
	}
	texts := func(w api.Want) []api.Want {
		w.Kind = api.KindText
		return a(w)
	}
	bools := func(w api.Want) []api.Want {
		w.Kind = api.KindBool
		return a(w)
	}
	for s, want := range map[string][]api.Want{
		"any":             nil,
		"has a":           a(api.Want{}),
		"has a and has A": a(api.Want{}),
		// One of some values.
		"a = 5":                            ints(api.Want{HasIn: true, In: values(num(5))}),
		"has a and a = 5 and has a":        ints(api.Want{HasIn: true, In: values(num(5))}),
		"a in {3, 1, 2}":                   ints(api.Want{HasIn: true, In: nums(1, 3)}),
		"a in {1, 2, 3} and a in {4, 3,2}": ints(api.Want{HasIn: true, In: nums(2, 2)}),
		"a in {1, 2, 3} and a = 2":         ints(api.Want{HasIn: true, In: nums(2, 1)}),
		"a in {1, 2} and a in {3, 4}":      nothing,
		"a = 1 and a = 2":                  nothing,
		// Of another kind.
		"a = 1 and a = true":                nothing,
		"a = 1 and a = \"1\"":               nothing,
		"a > \"\" and a > x''":              nothing,
		"a = 1 and a = true and a = 1":      nothing,
		"a != 1 and a != \"\" and a = \"\"": nothing,
		"a = 1 and has a and a = x''":       nothing,
		// Not these.
		"a != 5": ints(api.Want{Not: values(num(5))}),
		"a != 5 and a != 3 and a != 5 and a != 9 and a != 4 and a != 3": ints(api.Want{Not: values(num(3), num(4), num(5), num(9))}),
		"a in {1, 2, 3} and a != 2":                                     ints(api.Want{HasIn: true, In: values(num(1), num(3)), Not: values(num(2))}),
		"a != 1 and a = 1":                                              nothing,
		"a != \"b\" and a != \"\"":                                      texts(api.Want{Not: values(text(""), text("b"))}),
		"a != 1 and a != 2 and a >= 1 and a <= 2":                       ints(api.Want{HasLo: true, Lo: num(1), HasHi: true, Hi: num(2), Not: nums(1, 2)}),
		"a != 1 and a != 2 and a >= 1 and a in {1,2,3}":                 ints(api.Want{HasLo: true, Lo: num(1), HasIn: true, In: nums(3, 1), Not: nums(1, 2)}),
		// Ends, of texts and bytes.
		`a >= "b"`:                          texts(api.Want{HasLo: true, Lo: text("b")}),
		`a > "b"`:                           texts(api.Want{HasLo: true, Lo: text("b"), LoOpen: true}),
		`a <= "b"`:                          texts(api.Want{HasHi: true, Hi: text("b")}),
		`a < "b"`:                           texts(api.Want{HasHi: true, Hi: text("b"), HiOpen: true}),
		`a >= "b" and a >= "c"`:             texts(api.Want{HasLo: true, Lo: text("c")}),
		`a >= "c" and a >= "b"`:             texts(api.Want{HasLo: true, Lo: text("c")}),
		`a >= "b" and a > "b"`:              texts(api.Want{HasLo: true, Lo: text("b"), LoOpen: true}),
		`a > "b" and a >= "b"`:              texts(api.Want{HasLo: true, Lo: text("b"), LoOpen: true}),
		`a > "b" and a >= "c"`:              texts(api.Want{HasLo: true, Lo: text("c")}),
		`a > "c" and a > "b" and a >= "b"`:  texts(api.Want{HasLo: true, Lo: text("c"), LoOpen: true}),
		`a <= "b" and a <= "c"`:             texts(api.Want{HasHi: true, Hi: text("b")}),
		`a <= "c" and a <= "b"`:             texts(api.Want{HasHi: true, Hi: text("b")}),
		`a <= "b" and a < "b"`:              texts(api.Want{HasHi: true, Hi: text("b"), HiOpen: true}),
		`a < "b" and a <= "b"`:              texts(api.Want{HasHi: true, Hi: text("b"), HiOpen: true}),
		`a < "c" and a <= "b"`:              texts(api.Want{HasHi: true, Hi: text("b")}),
		`a < "b" and a < "c" and a <= "c"`:  texts(api.Want{HasHi: true, Hi: text("b"), HiOpen: true}),
		`a > "a" and a < "b"`:               texts(api.Want{HasLo: true, Lo: text("a"), LoOpen: true, HasHi: true, Hi: text("b"), HiOpen: true}),
		`a >= "b" and a <= "b"`:             texts(api.Want{HasLo: true, Lo: text("b"), HasHi: true, Hi: text("b"), HasIn: true, In: values(text("b"))}),
		`a > "b" and a <= "b"`:              nothing,
		`a >= "b" and a < "b"`:              nothing,
		`a >= "c" and a <= "b"`:             nothing,
		`a >= "b" and a <= "b" and a = "b"`: texts(api.Want{HasLo: true, Lo: text("b"), HasHi: true, Hi: text("b"), HasIn: true, In: values(text("b"))}),
		`a >= "b" and a <= "b" and a = "c"`: nothing,
		// The lowest text stands at no end of its own.
		`a < ""`:           texts(api.Want{HasHi: true, Hi: text(""), HiOpen: true}),
		`a >= "" and a<""`: nothing,
		// Ends of integers are closed.
		"a > 3 and a <= 7":               ints(api.Want{HasLo: true, Lo: num(4), HasHi: true, Hi: num(7)}),
		"a >= 3 and a < 7":               ints(api.Want{HasLo: true, Lo: num(3), HasHi: true, Hi: num(6)}),
		"a > 3 and a >= 4":               ints(api.Want{HasLo: true, Lo: num(4)}),
		"a > 3 and a < 5":                ints(api.Want{HasLo: true, Lo: num(4), HasHi: true, Hi: num(4), HasIn: true, In: nums(4, 1)}),
		"a > 3 and a < 4":                nothing,
		"a > 3 and a < 5 and a != 4":     nothing,
		"a > 9007199254740990":           ints(api.Want{HasLo: true, Lo: num(api.MaxInt)}),
		"a > 9007199254740991":           nothing,
		"a < -9007199254740990":          ints(api.Want{HasHi: true, Hi: num(-api.MaxInt)}),
		"a < -9007199254740991":          nothing,
		"a >= 9007199254740991":          ints(api.Want{HasLo: true, Lo: num(api.MaxInt)}),
		"a <= -9007199254740991":         ints(api.Want{HasHi: true, Hi: num(-api.MaxInt)}),
		"a in {1,2,3,4} and a>1 and a<4": ints(api.Want{HasLo: true, Lo: num(2), HasHi: true, Hi: num(3), HasIn: true, In: nums(2, 2)}),
		"a in {1,2} and a > 2":           nothing,
		// Bools.
		"a = true":                        bools(api.Want{HasIn: true, In: values(truth(1))}),
		"a != true":                       bools(api.Want{HasIn: true, In: values(truth(0)), Not: values(truth(1))}),
		"a != false":                      bools(api.Want{HasIn: true, In: values(truth(1)), Not: values(truth(0))}),
		"a in {true, false}":              bools(api.Want{HasIn: true, In: values(truth(0), truth(1))}),
		"a != true and a != false":        nothing,
		"a in {true, false} and a = true": bools(api.Want{HasIn: true, In: values(truth(1))}),
		"a = true and a != false and a in { false }": nothing,
		// Beginnings, which are ends, too.
		`a prefix "ab"`:                       texts(api.Want{HasPre: true, Pre: "ab", HasLo: true, Lo: text("ab")}),
		`a prefix ""`:                         texts(api.Want{HasPre: true, HasLo: true, Lo: text("")}),
		`a prefix x''`:                        a(api.Want{Kind: api.KindBytes, HasPre: true, HasLo: true, Lo: raw("")}),
		`a prefix x'ff'`:                      a(api.Want{Kind: api.KindBytes, HasPre: true, Pre: "\xff", HasLo: true, Lo: raw("\xff")}),
		`a prefix "a" and a prefix "ab"`:      texts(api.Want{HasPre: true, Pre: "ab", HasLo: true, Lo: text("ab")}),
		`a prefix "ab" and a prefix "a"`:      texts(api.Want{HasPre: true, Pre: "ab", HasLo: true, Lo: text("ab")}),
		`a prefix "a" and a prefix "b"`:       nothing,
		`a prefix "b" and a prefix "a"`:       nothing,
		`a prefix "ab" and a prefix "ac"`:     nothing,
		`a > "a" and a prefix "ab"`:           texts(api.Want{HasPre: true, Pre: "ab", HasLo: true, Lo: text("ab")}),
		`a > "ab" and a prefix "ab"`:          texts(api.Want{HasPre: true, Pre: "ab", HasLo: true, Lo: text("ab"), LoOpen: true}),
		`a prefix "ab" and a > "ab"`:          texts(api.Want{HasPre: true, Pre: "ab", HasLo: true, Lo: text("ab"), LoOpen: true}),
		`a >= "abc" and a prefix "ab"`:        texts(api.Want{HasPre: true, Pre: "ab", HasLo: true, Lo: text("abc")}),
		`a > "b" and a prefix "a"`:            nothing,
		`a >= "b" and a prefix "ab"`:          nothing,
		`a prefix "b" and a < "b"`:            nothing,
		`a prefix "b" and a <= "b"`:           texts(api.Want{HasPre: true, Pre: "b", HasLo: true, Lo: text("b"), HasHi: true, Hi: text("b"), HasIn: true, In: values(text("b"))}),
		`a prefix "b" and a < "c"`:            texts(api.Want{HasPre: true, Pre: "b", HasLo: true, Lo: text("b"), HasHi: true, Hi: text("c"), HiOpen: true}),
		`a prefix "b" and a in {"b","a","c"}`: texts(api.Want{HasPre: true, Pre: "b", HasLo: true, Lo: text("b"), HasIn: true, In: values(text("b"))}),
		`a prefix "b" and a = "a"`:            nothing,
		// What can't be is not asked any more.
		`a prefix "a" and a prefix "b" and a != "c" and a > "d"`: nothing,
		// Several names, each written as it was asked first, by names that rise.
		"b = 1 and A > 3 and a < 6 and B = 1 and has _": {{Name: "_"}, {Name: "A", Kind: api.KindInt, HasLo: true, Lo: num(4), HasHi: true, Hi: num(5)}, {Name: "b", Kind: api.KindInt, HasIn: true, In: nums(1, 1)}},
		"É = 1 and é = 2 and has B and a != 1":          {{Name: "a", Kind: api.KindInt, Not: nums(1, 1)}, {Name: "B"}, none("É")},
	} {
		got := Wants(say(t, s))
		if len(got) != len(want) {
			t.Errorf("Wants(%s) = %+v", s, got)
			continue
		}
		for i := range got {
			if !sameWant(got[i], want[i]) {
				t.Errorf("Wants(%s)[%d] =\n%+v, want\n%+v", s, i, got[i], want[i])
			}
		}
		if None(say(t, s)) != slices.ContainsFunc(want, func(w api.Want) bool { return w.None }) {
			t.Errorf("None(%s) = %v", s, None(say(t, s)))
		}
	}
	for _, f := range wrongFilters() {
		if len(Wants(f)) != 0 || None(f) {
			t.Errorf("Wants(%v) = %v, None: %v", f, Wants(f), None(f))
		}
	}
	if None(append(say(t, "a = 1 and a = 2"), api.Pred{})) {
		t.Errorf("what is no filter has no wants")
	}
}

// sameWant: a nil list is the same as an empty one.
func sameWant(a, b api.Want) bool {
	same := slices.Equal(a.In, b.In) && slices.Equal(a.Not, b.Not)
	a.In, a.Not, b.In, b.Not = nil, nil, nil, nil
	return same && reflect.DeepEqual(a, b)
}

// Promise 9.1: Admits, of any want, as it stands.
func TestAdmits(t *testing.T) {
	for _, x := range []struct {
		w       api.Want
		yes, no []api.Value
	}{
		{api.Want{}, values(num(1), text(""), truth(0), raw("\xff"), num(api.MaxInt)), nil},
		{api.Want{Name: "no name"}, values(num(1)), nil},
		{api.Want{None: true}, nil, values(num(1), text(""))},
		{api.Want{None: true, HasIn: true, In: nums(1, 1)}, nil, values(num(1))},
		{api.Want{Kind: api.KindInt}, values(num(1)), values(text(""), truth(1), raw(""))},
		{api.Want{Kind: 99}, nil, values(num(1), text(""))},
		{api.Want{Kind: api.KindInt, HasLo: true, Lo: num(3)}, values(num(3), num(4)), values(num(2), text("z"))},
		{api.Want{Kind: api.KindInt, HasLo: true, Lo: num(3), LoOpen: true}, values(num(4)), values(num(3), num(2))},
		{api.Want{Kind: api.KindInt, HasHi: true, Hi: num(3)}, values(num(3), num(2)), values(num(4))},
		{api.Want{Kind: api.KindInt, HasHi: true, Hi: num(3), HiOpen: true}, values(num(2)), values(num(3), num(4))},
		{api.Want{HasLo: true, Lo: text("b")}, values(text("b"), text("c"), truth(0), raw("")), values(text("a"), num(5))},
		{api.Want{HasHi: true, Hi: text("b")}, values(text("b"), text("a"), num(5)), values(text("c"), truth(0))},
		{api.Want{LoOpen: true, Lo: num(3), HiOpen: true, Hi: num(3), Pre: "x"}, values(num(3), text("a")), nil},
		{api.Want{HasPre: true, Pre: "ab"}, values(text("ab"), raw("abc")), values(text("a"), text("b"), num(1), text(""))},
		{api.Want{HasPre: true}, values(text(""), num(1)), nil},
		{api.Want{HasIn: true, In: values(num(5), text("a"), num(1))}, values(num(1), num(5), text("a")), values(num(3), raw("a"))},
		{api.Want{HasIn: true}, nil, values(num(1))},
		{api.Want{In: nums(1, 2)}, values(num(1), num(7)), nil},
		{api.Want{Not: values(num(5), num(1))}, values(num(3), text("")), values(num(1), num(5))},
		{api.Want{HasIn: true, In: nums(1, 3), Not: nums(2, 1)}, values(num(1), num(3)), values(num(2))},
		{api.Want{HasLo: true, Lo: num(5), HasHi: true, Hi: num(4)}, nil, values(num(4), num(5))},
	} {
		for _, v := range x.yes {
			if !Admits(x.w, v) {
				t.Errorf("%+v admits %+v", x.w, v)
			}
		}
		for _, v := range append(x.no, api.Value{}, num(api.MaxInt+1), truth(2), text("\xff"), text(strings.Repeat("a", api.MaxValue+1)), api.Value{Kind: 9}) {
			if Admits(x.w, v) {
				t.Errorf("%+v does not admit %+v", x.w, v)
			}
		}
	}
	bad := api.Value{Kind: 9}
	if Admits(api.Want{HasIn: true, In: values(bad)}, bad) {
		t.Errorf("a value that may not be is not admitted")
	}
}

// Promise 9.1: Grants, of any want, as it stands.
func TestGrants(t *testing.T) {
	type list = []string
	ints, texts := api.Want{Kind: api.KindInt}, api.Want{Kind: api.KindText}
	set := func(w api.Want, change func(*api.Want)) api.Want {
		change(&w)
		return w
	}
	for _, x := range []struct {
		w       api.Want
		yes, no list
	}{
		{api.Want{None: true}, list{"has a", "a = 1", "b < \"\"", "a prefix x''"}, nil},
		{api.Want{}, list{"has a", "has b"}, list{"a = 1", "a != 1", "a < 1", "a prefix \"\"", "a in {1}"}},
		{ints, list{"has a"}, list{"a = 1", "a != 1", "a < 1", "a <= 1", "a > 1", "a >= 1", "a in {1}", "a >= -9007199254740991", "a <= 9007199254740991", "a != \"x\""}},
		{set(ints, func(w *api.Want) { w.Not = nums(1, 2) }), list{"a != 1", "a != 2", "has a"}, list{"a != 3", "a != true", "a = 3"}},
		{set(ints, func(w *api.Want) { w.HasHi, w.Hi = true, num(5) }), list{"a < 6", "a <= 5", "a <= 6", "a != 6", "a < 7"}, list{"a < 5", "a <= 4", "a != 5", "a > 0", "a >= -1", "a = 5", "a in {5}", "a < \"z\"", "a <= x'ff'"}},
		{set(ints, func(w *api.Want) { w.HasHi, w.Hi, w.HiOpen = true, num(5), true }), list{"a < 5", "a <= 5", "a < 6", "a != 5"}, list{"a < 4", "a <= 4", "a != 4"}},
		{set(ints, func(w *api.Want) { w.HasLo, w.Lo = true, num(5) }), list{"a > 4", "a >= 5", "a >= 4", "a != 4"}, list{"a > 5", "a >= 6", "a != 5", "a < 9", "a <= 9", "a = 5", "a > \"\"", "a >= x''"}},
		{set(ints, func(w *api.Want) { w.HasLo, w.Lo, w.LoOpen = true, num(5), true }), list{"a > 5", "a >= 5", "a > 4", "a != 5"}, list{"a > 6", "a >= 6", "a != 6"}},
		{set(ints, func(w *api.Want) { w.Hi, w.Lo, w.LoOpen, w.HiOpen = num(5), num(5), true, true }), nil, list{"a < 9", "a <= 9", "a > 0", "a >= 0"}},
		{set(ints, func(w *api.Want) { w.HasIn, w.In = true, nums(3, 3) }), list{"a >= 3", "a > 2", "a < 6", "a <= 5", "a != 6", "a in {1,2,3,4,5}", "a in {3,4,5}"}, list{"a > 3", "a < 5", "a != 4", "a = 3", "a in {3,4}", "a = true", "a prefix \"\""}},
		{set(ints, func(w *api.Want) { w.HasIn, w.In = true, nums(3, 1) }), list{"a = 3", "a in {3}", "a in {2,3}"}, list{"a = 4", "a in {2,4}"}},
		// As it stands: In alone is asked, where it is.
		{set(ints, func(w *api.Want) { w.HasIn, w.In, w.HasHi, w.Hi, w.Not = true, nums(3, 1), true, num(1), nums(3, 1) }), list{"a = 3", "a > 2"}, list{"a < 2", "a != 3"}},
		{set(ints, func(w *api.Want) { w.HasIn = true }), list{"a = 3", "a < 2"}, list{"a = \"\""}},
		{set(ints, func(w *api.Want) { w.HasIn, w.In = true, values(num(3), text("a")) }), nil, list{"a = 3", "a < 9", "a != 4", "a > 1"}},
		{set(ints, func(w *api.Want) { w.HasIn, w.In = true, values(num(api.MaxInt+1)) }), nil, list{"a > 1", "a != 3"}},
		{api.Want{HasIn: true, In: nums(1, 1)}, nil, list{"a = 1"}},
		{set(texts, func(w *api.Want) { w.In = values(text("a")) }), nil, list{`a = "a"`}},
		{set(texts, func(w *api.Want) { w.HasPre, w.Pre = true, "ab" }), list{`a prefix "ab"`, `a prefix "a"`, `a prefix ""`, `a < "b"`, `a <= "b"`, `a < "ac"`, `a <= "ac"`, `a != "a"`, `a != "b"`}, list{`a prefix "abc"`, `a prefix "b"`, `a < "abc"`, `a <= "abc"`, `a < "ab"`, `a <= "ab"`, `a < "aa"`, `a <= "a"`, `a <= ""`, `a > ""`, `a >= "a"`, `a >= "ab"`, `a != "ab"`, `a != "abc"`, `a = "ab"`, `a prefix x'6162'`, `a < x'ff'`}},
		{set(texts, func(w *api.Want) { w.Pre = "ab" }), nil, list{`a prefix "ab"`, `a prefix ""`, `a < "b"`, `a <= "b"`}},
		{set(texts, func(w *api.Want) { w.HasPre, w.Pre, w.HasHi, w.Hi = true, "ab", true, text("abb") }), list{`a < "b"`, `a <= "abb"`, `a < "abc"`, `a != "abc"`}, list{`a < "abb"`, `a <= "aba"`}},
	} {
		for _, s := range x.yes {
			if !Grants(x.w, say(t, s)[0]) {
				t.Errorf("%+v has %s granted", x.w, s)
			}
		}
		for _, s := range x.no {
			if Grants(x.w, say(t, s)[0]) {
				t.Errorf("%+v does not have %s granted", x.w, s)
			}
		}
		for _, f := range wrongFilters() {
			for _, p := range f {
				if !filter.Check([]api.Pred{p}) && Grants(x.w, p) {
					t.Errorf("%+v has %+v granted", x.w, p)
				}
			}
		}
	}
}

// Promise 9.1: Covers.
func TestCovers(t *testing.T) {
	for _, x := range []struct {
		f, g string
		want bool
	}{
		{"any", "any", true},
		{"any", "a = 1", true},
		{"has a", "any", false},
		{"has a", "has b", false},
		{"has a", "b = 1 and A = 2", true},
		{"has a", "b = 1 and a = 2 and a = 3", true},
		{"a >= 4", "a > 3 and a <= 7", true},
		{"a != 9 and has a", "a > 3 and a <= 7", true},
		{"a = 5", "a > 3 and a <= 7", false},
		{"a = 5", "a > 4 and a < 6", true},
		{"a = 1 and b = 2", "a = 1", false},
		{"a = 1", "a = 1 and b = 2", true},
		{"a = 1 and b = 2", "B = 2 and A = 1 and c = 3", true},
		{"z = 1", "a = 1 and a = 2", true},
		{"z = 1", "a = 1", false},
		{"a = 1", "a = true", false},
		{"a != 1", "a = true", false},
		{"a != true", "a = false", true},
		{"a in {1, 2}", "a = 2", true},
		{"a in {1, 2}", "a in {2, 3}", false},
		{"a > 1 and a < 9", "a in {2, 8}", true},
		{"a > 1 and a < 9", "a in {2, 9}", false},
		{`s prefix "a"`, `s in {"ab", "a"}`, true},
		{`s prefix "a" and s != "ab"`, `s in {"ab", "a"}`, false},
		{`s < "b"`, `s prefix "ab"`, true},
		{`s > "a"`, `s prefix "ab"`, true},
		{`s > "ab"`, `s prefix "ab"`, false},
		{`s prefix "ab"`, `s >= "ab" and s < "ac"`, false},
	} {
		f, g := say(t, x.f), say(t, x.g)
		if got := Covers(f, g); got != x.want {
			t.Errorf("Covers(%s, %s) = %v", x.f, x.g, got)
		}
		for _, wrong := range wrongFilters() {
			if Covers(wrong, g) || Covers(f, wrong) || Covers(wrong, wrong) {
				t.Errorf("what is no filter covers none, and is covered by none: %v", wrong)
			}
		}
	}
}

// list: filters; "-" is none.
func list(t testing.TB, l ...string) (out [][]api.Pred) {
	for _, s := range l {
		if s == "-" {
			out = append(out, []api.Pred{{}})
		} else {
			out = append(out, say(t, s))
		}
	}
	return out
}

// Promise 9.2: Prune.
func TestPrune(t *testing.T) {
	for _, x := range []struct {
		l    []string
		want []int
	}{
		{nil, nil},
		{[]string{"-"}, nil},
		{[]string{"any"}, []int{0}},
		{[]string{"-", "a = 1", "-"}, []int{1}},
		{[]string{"a = 1", "b = 1"}, []int{0, 1}},
		{[]string{"a = 1", "a > 0", "a >= 1", "b = 1", "b = 2"}, []int{1, 3, 4}},
		{[]string{"a >= 1", "a = 1", "a > 0"}, []int{0}},
		{[]string{"a > 0", "A >= 1", "a > 0"}, []int{0}},
		{[]string{"a = 1", "any", "b = 2"}, []int{1}},
		{[]string{"a = 1 and a = 2", "b = 1"}, []int{1}},
		{[]string{"b = 1", "a = 1 and a = 2"}, []int{0}},
		{[]string{"a = 1 and a = 2", "-", "b = 1 and b = 2"}, []int{0}},
		{[]string{"a = 1 and b = 1", "a = 1", "b = 1"}, []int{1, 2}},
		{[]string{"a = 1", "a in {1}", "a >= 1 and a <= 1", "a in {1, 2}"}, []int{3}},
		{[]string{"a = 1 and b = 1", "b = 1 and a = 1"}, []int{0}},
	} {
		if got := Prune(list(t, x.l...)); !slices.Equal(got, x.want) {
			t.Errorf("Prune(%q) = %v, want %v", x.l, got, x.want)
		}
	}
}

// in is the text of an in with that many values from the first one on.
func in(first, count int) string {
	return filter.Show([]api.Pred{pred("a", api.OpIn, nums(first, count)...)})
}

// Promise 9.2: Merge.
func TestMerge(t *testing.T) {
	for _, x := range []struct{ f, g, want string }{
		{"a = 1 and has b", "a in {2} and has b", "a in { 1 , 2 } and has b"},
		{"a = 2 and has b", "a = 1 and has b", "a in { 1 , 2 } and has b"},
		{"has b and a in {1, 5}", "has B and A in {3, 5}", "has b and a in { 1 , 3 , 5 }"},
		{"any", "a = 1", "any"},
		{"a = 1", "any", "any"},
		{"a = 1", "a = 1", "a = 1"},
		{"a = 1", "A in {1}", "a = 1"},
		{"a > 3", "a >= 4", "a > 3"},
		{"a = 1", "a = 2 and a = 3", "a = 1"},
		{"a = 2 and a = 3", "a = 1", "a = 1"},
		{"a = 1", "a >= 1", "a >= 1"},
		{"a = 1 and b = 1", "b = 1", "b = 1"},
		// Two places, none, other names, ops, kinds, counts.
		{"a = 1 and b = 1", "a = 2 and b = 2", ""},
		{"a = 1 and b = 1", "b = 1 and a = 2", ""},
		{"a = 1", "b = 2", ""},
		{"a = 1", "a = true", ""},
		{"a = 1", "a = \"1\"", ""},
		{"a = 1", "a < 0", ""},
		{"a < 0", "a = 1", ""},
		{"a != 1", "a != 2", ""},
		{"has a", "has b", ""},
		{"a < 5", "a > 4", ""},
		{"a = 1 and has b", "a = 2", ""},
		{"a = 2", "a = 1 and has b", ""},
		{"a = 1 and has b and has c", "a = 2 and has b", ""},
		{`a prefix "a"`, `a prefix "b"`, ""},
		{"a = 1 and b > 1", "a = 2 and b >= 2", ""},
		{"a = 1 and b = 1", "a = 2 and b in {1}", ""},
		// As many as there may be, together.
		{in(0, 8), in(8, 8), in(0, 16)},
		{in(0, 16), in(16, 1), ""},
		{in(0, 8), in(8, 9), ""},
		{in(0, 12), in(4, 12), in(0, 16)},
		{in(0, 12), in(5, 12), ""},
	} {
		m, is := Merge(say(t, x.f), say(t, x.g))
		switch {
		case x.want == "":
			if is || m != nil {
				t.Errorf("Merge(%s, %s) = %v, %v", x.f, x.g, m, is)
			}
		case !is || !filter.Same(m, say(t, x.want)) || filter.Show(m) != x.want:
			t.Errorf("Merge(%s, %s) = %v, %v", x.f, x.g, m, is)
		}
	}
	for _, wrong := range wrongFilters() {
		for _, f := range list(t, "any", "a = 1", "a = 1 and a = 2") {
			for _, pair := range [][2][]api.Pred{{f, wrong}, {wrong, f}, {wrong, wrong}} {
				if m, is := Merge(pair[0], pair[1]); is || m != nil {
					t.Errorf("Merge(%v, %v) = %v, %v", pair[0], pair[1], m, is)
				}
			}
		}
	}
	long := slices.Repeat(say(t, "has b"), api.MaxPreds)
	if m, is := Merge(append(long, pred("a", api.OpEq, num(1))), append(long, pred("a", api.OpEq, num(2)))); is || m != nil {
		t.Errorf("what is no filter is merged: %v", m)
	}
}

// Promise 9.3: Few.
func TestFew(t *testing.T) {
	for _, x := range []struct{ l, want []string }{
		{nil, nil},
		{[]string{"-"}, nil},
		{[]string{"-", "any", "-"}, []string{"any"}},
		{[]string{"a = 1", "a > 0", "a >= 1", "b = 1", "b = 2"}, []string{"a > 0", "b in { 1 , 2 }"}},
		{[]string{"a = 1", "b = 1", "a = 3", "b = 2", "a = 2"}, []string{"a in { 1 , 2 , 3 }", "b in { 1 , 2 }"}},
		{[]string{in(0, 10), in(10, 10), in(20, 6)}, []string{filter.Show([]api.Pred{pred("a", api.OpIn, append(nums(0, 10), nums(20, 6)...)...)}), in(10, 10)}},
		{[]string{"a = 1", "a = 1 and a = 2", "a = 2"}, []string{"a in { 1 , 2 }"}},
		// The merged one covers what neither did.
		{[]string{"a in {1, 2} and has b", "a = 1", "a = 2"}, []string{"a in { 1 , 2 }"}},
		{[]string{"a = 1", "a in {1, 2} and has b", "a = 2", "has c"}, []string{"a in { 1 , 2 }", "has c"}},
		{[]string{"has c", "a = 1", "a = 2", "a in {1, 2} and has b"}, []string{"has c", "a in { 1 , 2 }"}},
		// Merged ones are merged again, also with those ahead of them.
		{[]string{"a = 1 and b = 1", "a = 2 and b = 1", "a = 1 and b = 2", "a = 2 and b = 2"}, []string{"a in { 1 , 2 } and b in { 1 , 2 }"}},
		{[]string{"a in {1, 2} and b = 1", "a = 1 and b = 2", "a = 2 and b = 2"}, []string{"a in { 1 , 2 } and b in { 1 , 2 }"}},
		{[]string{"a in {1, 2} and b = 1", "a in {1, 2} and b = 2 and has c", "a = 1 and b = 2", "a = 2 and b = 2"}, []string{"a in { 1 , 2 } and b in { 1 , 2 }"}},
		// The first pair alone: by the first one, then by the second one.
		{[]string{"a = 1 and b = 1", "a = 1 and b = 2", "a = 2 and b = 1"}, []string{"a = 1 and b in { 1 , 2 }", "a = 2 and b = 1"}},
		{[]string{"a = 1 and b = 1", "a = 2 and b = 1", "a = 1 and b = 2"}, []string{"a in { 1 , 2 } and b = 1", "a = 1 and b = 2"}},
		{[]string{"A = 1", "a = 2"}, []string{"A in { 1 , 2 }"}},
	} {
		var got []string
		for _, f := range Few(list(t, x.l...)) {
			got = append(got, filter.Show(f))
		}
		if !slices.Equal(got, x.want) {
			t.Errorf("Few(%q) = %q, want %q", x.l, got, x.want)
		}
	}
}

// Promise 9.3: a great many filters of one name come to few in good time.
func TestFewOfMany(t *testing.T) {
	var l [][]api.Pred
	for i := range 400 {
		l = append(l, []api.Pred{pred("a", api.OpEq, num(i))})
	}
	few := Few(l)
	if len(few) != 400/api.MaxIn {
		t.Fatalf("%d filters", len(few))
	}
	for i, f := range few {
		if filter.Show(f) != in(i*api.MaxIn, api.MaxIn) {
			t.Errorf("%d: %s", i, filter.Show(f))
		}
	}
}

// anyValue: of a few values of each kind, so that many meet.
func anyValue(r *rand.Rand, kind int) api.Value {
	short := []string{"", "a", "ab", "abc", "ac", "b", "ba", "z"}
	switch kind {
	case api.KindInt:
		if r.Intn(20) == 0 {
			return num([]int{-api.MaxInt, api.MaxInt}[r.Intn(2)])
		}
		return num(r.Intn(6))
	case api.KindBool:
		return truth(r.Intn(2))
	case api.KindText:
		return text(short[r.Intn(len(short))])
	}
	return raw(append(short, "a\xff", "\xff")[r.Intn(len(short)+2)])
}

func anyPred(r *rand.Rand) api.Pred {
	titles := []string{"a", "b", "A", "a"}
	kinds := []int{api.KindInt, api.KindText, api.KindText, api.KindBool, api.KindBytes}
	for {
		p := api.Pred{Name: titles[r.Intn(len(titles))], Op: 1 + r.Intn(9)}
		// One name is of one kind, mostly.
		kind := kinds[r.Intn(len(kinds))]
		if r.Intn(4) > 0 {
			kind = api.KindInt
			if name.Same(p.Name, "a") {
				kind = api.KindText
			}
		}
		switch p.Op {
		case api.OpHas:
		case api.OpIn:
			for range 1 + r.Intn(4) {
				p.L = append(p.L, anyValue(r, kind))
			}
			slices.SortFunc(p.L, func(x, y api.Value) int {
				if x.N != y.N {
					return x.N - y.N
				}
				return strings.Compare(x.S, y.S)
			})
			p.L = slices.Compact(p.L)
		default:
			p.L = values(anyValue(r, kind))
		}
		if filter.Check([]api.Pred{p}) {
			return p
		}
	}
}

func anyFilter(r *rand.Rand, most int) (f []api.Pred) {
	for range r.Intn(most + 1) {
		f = append(f, anyPred(r))
	}
	return f
}

// anyAttrs: those that random filters ask.
func anyAttrs(r *rand.Rand) (a []api.Attr) {
	for _, title := range []string{"a", "b"} {
		kind := 1 + r.Intn(4)
		if r.Intn(3) > 0 {
			kind = api.KindInt
			if title == "a" {
				kind = api.KindText
			}
		}
		if r.Intn(6) > 0 {
			a = append(a, api.Attr{Name: title, V: anyValue(r, kind)})
		}
	}
	return a
}

// admitted tells whether each want admits the value of its name.
func admitted(wants []api.Want, a []api.Attr) bool {
	for _, w := range wants {
		at := slices.IndexFunc(a, func(x api.Attr) bool { return name.Same(x.Name, w.Name) })
		if at < 0 || !Admits(w, a[at].V) {
			return false
		}
	}
	return true
}

// Promise 9.4: a filter lets by just what its wants admit.
func TestWantsSayWhatIsAsked(t *testing.T) {
	r := rand.New(rand.NewSource(1))
	let := 0
	for range 20000 {
		f := anyFilter(r, 4)
		wants := Wants(f)
		for range 10 {
			a := anyAttrs(r)
			lets := filter.Lets(f, a)
			if lets != admitted(wants, a) {
				t.Fatalf("%s of %v: %v; %+v", filter.Show(f), a, lets, wants)
			}
			if lets {
				let++
			}
		}
	}
	if let < 10000 {
		t.Errorf("too few were let by: %d", let)
	}
}

// Promise 9.4: what covers lets by all that the other one does; a filter covers itself.
func TestCoversLetsBy(t *testing.T) {
	r := rand.New(rand.NewSource(2))
	covered := 0
	for range 60000 {
		f, g := anyFilter(r, 3), anyFilter(r, 4)
		if !Covers(f, f) {
			t.Fatalf("%s does not cover itself", filter.Show(f))
		}
		if !Covers(f, append(slices.Clone(f), g...)) {
			t.Fatalf("%s does not cover itself with %s", filter.Show(f), filter.Show(g))
		}
		if !Covers(f, g) {
			continue
		}
		covered++
		for range 20 {
			if a := anyAttrs(r); filter.Lets(g, a) && !filter.Lets(f, a) {
				t.Fatalf("%s covers %s, but does not let %v by", filter.Show(f), filter.Show(g), a)
			}
		}
	}
	if covered < 5000 {
		t.Errorf("too few were covered: %d", covered)
	}
}

func letsOne(l [][]api.Pred, a []api.Attr) bool {
	return slices.ContainsFunc(l, func(f []api.Pred) bool { return filter.Lets(f, a) })
}

// pruneByWords goes by the words of the promise.
func pruneByWords(l [][]api.Pred) (places []int) {
	for i := range l {
		stays := filter.Check(l[i])
		for j := range l {
			if j != i && Covers(l[j], l[i]) && !(Covers(l[i], l[j]) && j > i) {
				stays = false
			}
		}
		if stays {
			places = append(places, i)
		}
	}
	return places
}

// fewByWords goes by the words of the promise.
func fewByWords(l [][]api.Pred) (few [][]api.Pred) {
	for _, i := range pruneByWords(l) {
		few = append(few, l[i])
	}
	for i := range few {
		for j := i + 1; j < len(few); j++ {
			if m, is := Merge(few[i], few[j]); is {
				next := slices.Clone(few)
				next[i] = m
				return fewByWords(slices.Delete(next, j, j+1))
			}
		}
	}
	return few
}

// anyMany: filters, many of which can be merged.
func anyMany(r *rand.Rand) (l [][]api.Pred) {
	for range r.Intn(8) {
		f := anyFilter(r, 2)
		if r.Intn(3) > 0 {
			f = []api.Pred{pred("a", api.OpEq, num(r.Intn(3))), pred("b", api.OpEq, num(r.Intn(3)))}[r.Intn(2):]
		}
		if r.Intn(12) == 0 {
			f = append(f, api.Pred{})
		}
		l = append(l, f)
	}
	return l
}

// Promises 9.2 to 9.4: what is pruned, merged, made few.
func TestFewLetBy(t *testing.T) {
	r := rand.New(rand.NewSource(3))
	merged := 0
	for range 6000 {
		l := anyMany(r)
		places := Prune(l)
		if !slices.Equal(places, pruneByWords(l)) {
			t.Fatalf("Prune(%v) = %v, want %v", l, places, pruneByWords(l))
		}
		for _, f := range l {
			if filter.Check(f) && !slices.ContainsFunc(places, func(i int) bool { return Covers(l[i], f) }) {
				t.Fatalf("%s is pruned, but none that stays covers it", filter.Show(f))
			}
		}
		few := Few(l)
		if !slices.EqualFunc(few, fewByWords(l), filter.Same) {
			t.Fatalf("Few(%v) =\n%v, want\n%v", l, few, fewByWords(l))
		}
		if len(few) < len(places) {
			merged++
		}
		for range 20 {
			if a := anyAttrs(r); letsOne(l, a) != letsOne(few, a) {
				t.Fatalf("%v and %v do not both let %v by", l, few, a)
			}
		}
		for i := 1; i < len(l); i++ {
			if m, is := Merge(l[i-1], l[i]); is {
				if a := anyAttrs(r); filter.Lets(m, a) != letsOne(l[i-1:i+1], a) {
					t.Fatalf("%v merged: %s", l[i-1:i+1], filter.Show(m))
				}
			}
		}
	}
	if merged < 1000 {
		t.Errorf("too few were merged: %d", merged)
	}
}

// Promise 9.3: merged ones that are merged again with those ahead of them, or cover them, in whichever order all stand.
func TestFewOfGrids(t *testing.T) {
	r := rand.New(rand.NewSource(93))
	for range 60 {
		var l [][]api.Pred
		for i := range 27 {
			f := []api.Pred{pred("a", api.OpEq, num(i%3)), pred("b", api.OpEq, num(i/3%3)), pred("c", api.OpEq, num(i/9))}
			switch r.Intn(8) {
			case 0:
				continue
			case 1:
				f = append(f, pred("d", api.OpHas))
			case 2:
				f[r.Intn(3)] = pred("a", api.OpIn, nums(r.Intn(3), 1+r.Intn(16))...)
			}
			l = append(l, f)
		}
		r.Shuffle(len(l), func(i, j int) { l[i], l[j] = l[j], l[i] })
		if few, want := Few(l), fewByWords(l); !slices.EqualFunc(few, want, filter.Same) {
			t.Fatalf("Few(%v) =\n%v, want\n%v", l, few, want)
		}
	}
}

// spoil changes all that a filter's memory holds.
func spoil(f []api.Pred) {
	for i := range f {
		for j := range f[i].L {
			f[i].L[j] = api.Value{Kind: math.MaxInt}
		}
		f[i] = api.Pred{Name: "spoilt"}
	}
}

// Rule R3: no answer shares memory with an argument or with another answer, and no argument is changed.
func TestMemory(t *testing.T) {
	texts := []string{"a in {1, 2} and a != 1 and a in {2, 1}", "has b and a in {2, 3}", "has b and a in {3, 4}", "b in {true, false}", "b in {true, false} and A != 1"}
	l := list(t, texts...)
	unchanged := func(what string) {
		for i, f := range l {
			if !filter.Same(f, say(t, texts[i])) {
				t.Fatalf("%s: %v", what, f)
			}
		}
	}
	for range 2 {
		for i, f := range l {
			for j, g := range l {
				wants, others := Wants(f), Wants(g)
				for _, w := range wants {
					for k := range w.In {
						w.In[k] = num(-1)
					}
					for k := range w.Not {
						w.Not[k] = num(-1)
					}
				}
				if i == j && reflect.DeepEqual(wants, others) {
					t.Fatalf("wants are not spoilt, or share memory: %v", wants)
				}
				Covers(f, g)
				m, _ := Merge(f, g)
				again, _ := Merge(f, g)
				before := filter.Show(again)
				spoil(m)
				if filter.Show(again) != before {
					t.Fatalf("Merge shares memory")
				}
				unchanged("Wants, Merge")
			}
		}
		few, again := Few(l), Few(l)
		shown := make([]string, 0, len(again))
		for _, f := range again {
			shown = append(shown, filter.Show(f))
		}
		for i, f := range few {
			spoil(f)
			for k := i + 1; k < len(few); k++ {
				if filter.Show(few[k]) != shown[k] {
					t.Fatalf("filters of Few share memory")
				}
			}
		}
		for i, f := range again {
			if filter.Show(f) != shown[i] {
				t.Fatalf("answers of Few share memory")
			}
		}
		Prune(l)
		unchanged("Few")
	}
	// The same list twice is one filter in an answer.
	f := say(t, "a in {1, 2}")
	few := Few([][]api.Pred{f, say(t, "b in {1, 2}"), f})
	if len(few) != 2 {
		t.Fatalf("%v", few)
	}
	spoil(few[0])
	if filter.Show(f) != "a in { 1 , 2 }" {
		t.Errorf("Few shares memory: %v", f)
	}
	w := api.Want{Kind: api.KindInt, HasIn: true, In: nums(1, 3), Not: nums(2, 2)}
	Admits(w, num(1))
	Grants(w, pred("a", api.OpNe, num(2)))
	if !slices.Equal(w.In, nums(1, 3)) || !slices.Equal(w.Not, nums(2, 2)) {
		t.Errorf("a want is changed: %v", w)
	}
}
