package audit

import (
	"slices"
	"testing"

	"caduceus/api"
	"caduceus/event"
	"caduceus/filter"
	"caduceus/forest"
)

func num(n int) []api.Attr {
	return []api.Attr{{Name: "a", V: api.Value{Kind: api.KindInt, N: n}}}
}

func id(n int) api.ID { return api.ID{Node: 1, Life: 1, Seq: n} }

// called is the fact of a call, in life 1.
func called(node, ticket int, c api.Call) api.Fact {
	return api.Fact{Node: node, Life: 1, C: c, R: api.Reply{Ticket: ticket, Kind: c.Kind}}
}

// answered is the fact of an answer, in life 1.
func answered(node, ticket, kind int, r api.Reply) api.Fact {
	r.Ticket, r.Kind = ticket, kind
	return api.Fact{Node: node, Life: 1, IsR: true, R: r}
}

// publishes is a call at node 1 that publishes an event, and its answer.
func publishes(ticket, seq int, title string, l []api.Attr) []api.Fact {
	return []api.Fact{called(1, ticket, api.Call{Kind: api.CallPub, Name: title, Attrs: l}), answered(1, ticket, api.CallPub, api.Reply{ID: id(seq)})}
}

// subscribes is a call at node 2 that subscribes, and its answer.
func subscribes(ticket, sub int, title string, f []api.Pred) []api.Fact {
	return []api.Fact{called(2, ticket, api.Call{Kind: api.CallSub, Name: title, F: f}), answered(2, ticket, api.CallSub, api.Reply{N: sub})}
}

// gives is a call at node 2 that polls, and its answer.
func gives(ticket int, l ...api.Given) []api.Fact {
	return []api.Fact{called(2, ticket, api.Call{Kind: api.CallPoll}), answered(2, ticket, api.CallPoll, api.Reply{G: l})}
}

// golf is the event of id 5, given to a subscription.
func golf(sub int, of string) api.Given {
	return api.Given{Sub: sub, Of: of, X: api.Event{ID: id(5), Type: "Golf", Attrs: num(3)}}
}

func parsed(t *testing.T, s string) []api.Pred {
	t.Helper()
	f, at, e := filter.Parse(s)
	if e != api.OK {
		t.Fatalf("%q goes wrong at %d: %v", s, at, e)
	}
	return f
}

// golfType is Golf below News.
func golfType(t *testing.T) []api.Type {
	t.Helper()
	news, e := forest.Root("News", nil, id(1))
	if e != api.OK {
		t.Fatal(e)
	}
	golf, e := forest.Below(news, "GOLF", nil, id(2))
	if e != api.OK {
		t.Fatal(e)
	}
	return []api.Type{golf, news}
}

// finds holds the findings of facts against what should be found.
func finds(t *testing.T, what string, l []api.Fact, types []api.Type, want ...api.Finding) {
	t.Helper()
	if got := Check(l, types); !slices.Equal(got, want) {
		t.Errorf("%s: %v, not %v", what, got, want)
	}
}

// Promise 24.1: an answer has a call ahead, and is the first one.
func TestAnswers(t *testing.T) {
	call, answer := called(1, 1, api.Call{Kind: api.CallPoll}), answered(1, 1, api.CallPoll, api.Reply{})
	turned := func(change func(x *api.Fact)) api.Fact {
		x := answer
		change(&x)
		return x
	}
	no, again := api.Finding{At: 1, G: -1, Why: api.WhyCall}, api.Finding{At: 2, G: -1, Why: api.WhyAgain}
	finds(t, "nothing", nil, nil)
	finds(t, "a call alone", []api.Fact{call}, nil)
	finds(t, "an answer alone", []api.Fact{answer}, nil, api.Finding{G: -1, Why: api.WhyCall})
	finds(t, "a call and its answer", []api.Fact{call, answer}, nil)
	finds(t, "the answer ahead", []api.Fact{answer, call}, nil, api.Finding{G: -1, Why: api.WhyCall})
	finds(t, "the answer again", []api.Fact{call, answer, answer}, nil, again)
	finds(t, "an error", []api.Fact{call, turned(func(x *api.Fact) { x.R.E = api.ErrNone }), answer}, nil, again)
	finds(t, "often", []api.Fact{call, answer, answer, call, answer}, nil, again, api.Finding{At: 4, G: -1, Why: api.WhyAgain})
	for i, change := range []func(x *api.Fact){
		func(x *api.Fact) { x.Node = 2 }, func(x *api.Fact) { x.Life = 2 }, func(x *api.Fact) { x.R.Ticket = 2 }, func(x *api.Fact) { x.R.Kind = api.CallOver },
	} {
		other := turned(change)
		finds(t, "of another one", []api.Fact{call, other}, nil, no)
		want := []api.Finding{{At: 2, G: -1, Why: api.WhyCall}}
		if i == 3 {
			// It has the ticket of the answer ahead, and no call of its own kind.
			want = append(want, again)
		}
		finds(t, "of another one, behind the answer", []api.Fact{call, answer, other}, nil, want...)
	}
	finds(t, "alone twice", []api.Fact{answer, answer}, nil, api.Finding{G: -1, Why: api.WhyCall}, no, api.Finding{At: 1, G: -1, Why: api.WhyAgain})
	finds(t, "a call's R does not count as an answer", []api.Fact{call, call, answer}, nil)
}

// Promise 24.1: what is right, however names are written, and wherever facts stand between.
func TestRight(t *testing.T) {
	f := parsed(t, "a > 2")
	mixed := append(num(3), api.Attr{Name: "B", V: api.Value{Kind: api.KindBool}}, api.Attr{Name: "c", V: api.Value{Kind: api.KindText, S: "x"}})
	turned := slices.Clone(mixed)
	slices.Reverse(turned)
	given := golf(1, "NEWS")
	given.X.Attrs = mixed
	types := golfType(t)
	finds(t, "right", slices.Concat(subscribes(1, 1, "news", f), publishes(1, 5, "golf", turned), gives(2, given)), types)
	finds(t, "the subscription is not answered", slices.Concat(subscribes(1, 1, "news", f)[:1], publishes(1, 5, "golf", turned), gives(2, given)), types)
	finds(t, "by both types", slices.Concat(subscribes(1, 1, "news", f), subscribes(2, 2, "golf", nil), publishes(1, 5, "GOLF", turned), gives(3, given), gives(4, api.Given{Sub: 2, Of: "golf", X: given.X})), types)
	finds(t, "given ahead of its subscription's number", slices.Concat(subscribes(1, 1, "news", f)[:1], publishes(1, 5, "golf", turned), gives(2, given), subscribes(1, 1, "news", f)[1:]), types)
}

// Promise 24.1: what was not published.
func TestNotPublished(t *testing.T) {
	sub, pub, poll := subscribes(1, 1, "golf", nil), publishes(1, 5, "golf", num(3)), gives(2, golf(1, "golf"))
	why := api.Finding{At: 3, Why: api.WhyPub}
	finds(t, "never", slices.Concat(sub, poll), nil, why)
	finds(t, "behind", slices.Concat(sub, poll, pub), nil, why)
	why.At = 4
	finds(t, "not answered", slices.Concat(sub, pub[:1], poll), nil, why)
	finds(t, "of another identity", slices.Concat(sub, publishes(1, 6, "golf", num(3)), poll), nil, api.Finding{At: 5, Why: api.WhyPub})
	finds(t, "by an answer alone", slices.Concat(sub, pub[1:], poll), nil, api.Finding{At: 2, G: -1, Why: api.WhyCall}, why)
	failed := pub[1]
	failed.R.E = api.ErrFull
	finds(t, "by an error", slices.Concat(sub, pub[:1], []api.Fact{failed}, poll), nil, api.Finding{At: 5, Why: api.WhyPub})
	other := []api.Fact{called(1, 1, api.Call{Kind: api.CallOver, Name: "golf", Attrs: num(3)}), answered(1, 1, api.CallOver, api.Reply{ID: id(5)})}
	finds(t, "by another call", slices.Concat(sub, other, poll), nil, api.Finding{At: 5, Why: api.WhyPub})
	// Not by the answer itself that gives it.
	both := answered(2, 3, api.CallPub, api.Reply{ID: id(5), G: poll[1].R.G})
	finds(t, "by that answer", slices.Concat(sub, []api.Fact{called(2, 3, api.Call{Kind: api.CallPub, Name: "golf", Attrs: num(3)}), both}), nil, api.Finding{At: 3, Why: api.WhyPub})
	finds(t, "in its place", slices.Concat(sub, pub, gives(2, golf(1, "golf"), api.Given{Sub: 1, Of: "x"})), nil, api.Finding{At: 5, G: 1, Why: api.WhyPub})
}

// Promise 24.1: what is not the same as what was published.
func TestNotTheSame(t *testing.T) {
	facts := slices.Concat(subscribes(1, 1, "golf", nil), publishes(1, 5, "golf", append(num(3), api.Attr{Name: "b", V: api.Value{Kind: api.KindBool}})))
	for i, x := range []struct {
		change func(x *api.Event)
		same   bool
	}{
		{func(x *api.Event) {}, true},
		{func(x *api.Event) { x.Type = "gOLF" }, true},
		{func(x *api.Event) { x.Type = "Gol" }, false},
		{func(x *api.Event) { x.Type = "" }, false},
		{func(x *api.Event) { x.Attrs[0].V.N = 4 }, false},
		{func(x *api.Event) { x.Attrs[1].V.Kind = api.KindInt }, false},
		{func(x *api.Event) { x.Attrs[0].Name = "aa" }, false},
		{func(x *api.Event) { x.Attrs[0].Name = "A" }, false},
		{func(x *api.Event) { x.Attrs = x.Attrs[:1] }, false},
		{func(x *api.Event) { x.Attrs = nil }, false},
		{func(x *api.Event) { x.Attrs = append(x.Attrs, x.Attrs[1]) }, false},
		{func(x *api.Event) { slices.Reverse(x.Attrs) }, false},
	} {
		g := golf(1, "Golf")
		g.X.Attrs = append(g.X.Attrs, api.Attr{Name: "b", V: api.Value{Kind: api.KindBool}})
		x.change(&g.X)
		want := []api.Finding{{At: 5, Why: api.WhySame}}
		if x.same {
			want = nil
		}
		if got := Check(slices.Concat(facts, gives(2, g)), nil); !slices.Equal(got, want) {
			t.Errorf("%d: %v", i, got)
		}
	}
}

// Promise 24.1: what was given to nobody that asked for its type.
func TestNotSubscribed(t *testing.T) {
	pub, poll := publishes(1, 5, "golf", num(3)), gives(2, golf(1, "Golf"))
	for i, change := range []func(x *api.Fact){
		func(x *api.Fact) { x.Node = 1 }, func(x *api.Fact) { x.Life = 2 }, func(x *api.Fact) { x.C.Name = "Gol" }, func(x *api.Fact) { x.C.Kind, x.R.Kind = api.CallAdv, api.CallAdv }, func(x *api.Fact) { x.IsR = true },
	} {
		call := subscribes(9, 1, "golf", nil)[0]
		change(&call)
		got := Check(slices.Concat(pub, []api.Fact{call}, poll), nil)
		if i == 4 {
			// It is an answer to no call.
			got = got[1:]
		}
		if !slices.Equal(got, []api.Finding{{At: 4, Why: api.WhySub}}) {
			t.Errorf("%d: %v", i, got)
		}
	}
	finds(t, "behind", slices.Concat(pub, poll, subscribes(1, 1, "golf", nil)), nil, api.Finding{At: 3, Why: api.WhySub})
	finds(t, "never", slices.Concat(pub, poll), nil, api.Finding{At: 3, Why: api.WhySub})
}

// Promise 24.1: what the filter does not let by.
func TestNotWanted(t *testing.T) {
	pub, poll := publishes(1, 5, "golf", num(3)), gives(2, golf(1, "golf"))
	yes, no, wrong := parsed(t, "a > 2"), parsed(t, "a < 2"), []api.Pred{{}}
	found := func(at int) api.Finding { return api.Finding{At: at, Why: api.WhyWant} }
	finds(t, "no filter", slices.Concat(pub, subscribes(8, 1, "golf", no), poll), nil, found(5))
	finds(t, "one that may not be", slices.Concat(pub, subscribes(8, 1, "golf", wrong), poll), nil, found(5))
	finds(t, "not answered", slices.Concat(pub, subscribes(8, 1, "golf", no)[:1], poll), nil, found(4))
	finds(t, "another one's", slices.Concat(pub, subscribes(8, 1, "golf", no), subscribes(9, 2, "golf", yes), poll), nil, found(7))
	finds(t, "another one's, ahead", slices.Concat(pub, subscribes(9, 2, "golf", yes), subscribes(8, 1, "golf", no), poll), nil, found(7))
	finds(t, "its own", slices.Concat(pub, subscribes(8, 1, "golf", yes), subscribes(9, 2, "golf", no), poll), nil)
	finds(t, "one that has no number yet", slices.Concat(pub, subscribes(8, 1, "golf", no)[:1], subscribes(9, 2, "golf", yes), poll), nil)
	late := subscribes(8, 1, "golf", no)
	finds(t, "its number comes behind", slices.Concat(pub, late[:1], subscribes(9, 2, "golf", yes), poll, late[1:]), nil)
	failed := slices.Clone(late)
	failed[1].R.E = api.ErrKind
	finds(t, "an error names no number", slices.Concat(pub, failed, subscribes(9, 2, "golf", yes), poll), nil)
	finds(t, "another type's number", slices.Concat(pub, subscribes(8, 1, "news", no), subscribes(9, 2, "golf", yes), poll), nil)
	finds(t, "only another type's filter", slices.Concat(pub, subscribes(8, 1, "news", yes), subscribes(9, 2, "golf", no), poll), nil, found(7))
	finds(t, "the answer names it twice", slices.Concat(pub, late, late[1:], subscribes(9, 2, "golf", yes), poll), nil, api.Finding{At: 4, G: -1, Why: api.WhyAgain}, found(8))
	elsewhere := subscribes(8, 1, "golf", no)
	for i := range elsewhere {
		elsewhere[i].Life = 2
	}
	finds(t, "another life's", slices.Concat(pub, elsewhere, subscribes(9, 2, "golf", yes), poll), nil)
}

// Promise 24.1: what is of another type.
func TestNotOfItsType(t *testing.T) {
	types := golfType(t)
	pub := publishes(1, 5, "golf", num(3))
	for _, x := range []struct {
		of    string
		types []api.Type
		right bool
	}{
		{"news", types, true}, {"Golf", types, true}, {"other", types, false}, {"other", types[1:], true}, {"other", nil, true}, {"news", []api.Type{{Name: "gOLF", Chain: []string{"gOLF"}}, types[0]}, false}, {"golf", []api.Type{{Name: "golf"}}, false},
	} {
		want := []api.Finding{{At: 5, Why: api.WhyType}}
		if x.right {
			want = nil
		}
		finds(t, x.of, slices.Concat(pub, subscribes(1, 1, x.of, nil), gives(2, golf(1, x.of))), x.types, want...)
	}
}

// Promise 24.1: what was given twice.
func TestGivenTwice(t *testing.T) {
	begun := slices.Concat(publishes(1, 5, "golf", num(3)), publishes(2, 6, "golf", num(3)), subscribes(1, 1, "golf", nil))
	g := golf(1, "golf")
	found := func(at, g int) api.Finding { return api.Finding{At: at, G: g, Why: api.WhyTwice} }
	finds(t, "in one answer", slices.Concat(begun, gives(2, g, g, g)), nil, found(7, 1), found(7, 2))
	finds(t, "in two answers", slices.Concat(begun, gives(2, g), gives(3, golf(1, "GOLF"))), nil, found(9, 0))
	other := g
	other.X.ID = id(6)
	finds(t, "another event", slices.Concat(begun, gives(2, g, other)), nil)
	finds(t, "another subscription", slices.Concat(begun, gives(2, g, golf(2, "golf"))), nil)
	elsewhere := slices.Concat(subscribes(1, 1, "golf", nil), gives(2, g))
	for _, change := range []func(x *api.Fact){func(x *api.Fact) { x.Node = 3 }, func(x *api.Fact) { x.Life = 2 }} {
		l := slices.Clone(elsewhere)
		for i := range l {
			change(&l[i])
		}
		finds(t, "elsewhere", slices.Concat(begun, gives(2, g), l), nil)
	}
	turned := golf(1, "golf")
	turned.X.Attrs = num(4)
	finds(t, "behind one that was turned", slices.Concat(begun, gives(2, turned, g)), nil, api.Finding{At: 7, Why: api.WhySame}, found(7, 1))
}

// Promise 24.1: of a thing the first reason alone; findings stand by their places, an answer's own ones ahead.
func TestOrderOfFindings(t *testing.T) {
	types := golfType(t)
	no := parsed(t, "a < 2")
	facts := slices.Concat(publishes(1, 5, "golf", num(3)), subscribes(1, 1, "x", no), subscribes(2, 2, "y", nil), subscribes(3, 3, "news", nil))
	pub := golf(1, "z")
	pub.X.ID = id(9)
	same := golf(1, "z")
	same.X.Attrs = nil
	l := []api.Given{pub, same, golf(1, "z"), golf(1, "x"), golf(2, "y"), golf(3, "news"), golf(3, "news"), golf(2, "y"), pub}
	var want []api.Finding
	for i, why := range []int{api.WhyPub, api.WhySame, api.WhySub, api.WhyWant, api.WhyType, 0, api.WhyTwice, api.WhyType, api.WhyPub} {
		if why != 0 {
			want = append(want, api.Finding{At: 9, G: i, Why: why})
		}
	}
	facts = slices.Concat(facts, gives(4, l...))
	finds(t, "all", facts, types, want...)
	again := facts[9]
	want = append(want, api.Finding{At: 10, G: -1, Why: api.WhyAgain})
	for i, why := range []int{api.WhyPub, api.WhySame, api.WhySub, api.WhyWant, api.WhyType, api.WhyTwice, api.WhyTwice, api.WhyType, api.WhyPub} {
		want = append(want, api.Finding{At: 10, G: i, Why: why})
	}
	finds(t, "all again", append(facts, again), types, want...)
}

// Promise 24.2: the events that were published, each with its attributes by their names.
func TestPublished(t *testing.T) {
	b := api.Attr{Name: "B", V: api.Value{Kind: api.KindText, S: "x"}}
	call := called(1, 2, api.Call{Kind: api.CallPub, Name: "GOLF", Attrs: []api.Attr{b, num(3)[0]}})
	l := slices.Concat(
		publishes(1, 6, "golf", num(1)),
		[]api.Fact{answered(1, 2, api.CallPub, api.Reply{ID: id(9)}), call, called(1, 3, api.Call{Kind: api.CallPub}), answered(1, 3, api.CallPub, api.Reply{E: api.ErrNone, ID: id(8)}), answered(2, 2, api.CallPub, api.Reply{ID: id(9)}), answered(1, 2, api.CallPub, api.Reply{ID: id(5)})},
		subscribes(4, 1, "golf", nil), publishes(5, 7, "golf", nil),
	)
	want := []api.Event{{ID: id(6), Type: "golf", Attrs: num(1)}, {ID: id(5), Type: "GOLF", Attrs: []api.Attr{num(3)[0], b}}, {ID: id(7), Type: "golf"}}
	got := Published(l)
	if !slices.EqualFunc(got, want, event.Same) {
		t.Errorf("Published: %+v", got)
	}
	got[1].Attrs[0] = b
	if call.C.Attrs[0] != b || call.C.Attrs[1] != num(3)[0] || !slices.EqualFunc(Published(l), want, event.Same) {
		t.Errorf("it shares memory with the facts, or changes them: %+v", call)
	}
	if Published(nil) != nil || Published(l[3:4]) != nil {
		t.Errorf("of no answers")
	}
	// The first one of two calls of one ticket is the call.
	twice := slices.Concat(publishes(1, 5, "a", nil)[:1], publishes(1, 5, "b", nil))
	if got := Published(twice); len(got) != 1 || got[0].Type != "a" {
		t.Errorf("of two calls: %+v", got)
	}
}

// Promise 24.2: how many things were given, calls, answered ones, and errors.
func TestCounts(t *testing.T) {
	odd := called(1, 7, api.Call{Kind: api.CallPoll})
	odd.R.G = []api.Given{golf(1, "golf")}
	failed := answered(1, 1, api.CallOpen, api.Reply{E: api.ErrFull})
	open := called(1, 1, api.Call{Kind: api.CallOpen})
	for i, x := range []struct {
		l                               []api.Fact
		given, calls, answered, failing int
	}{
		{nil, 0, 0, 0, 0},
		{[]api.Fact{odd}, 0, 1, 0, 0},
		{gives(1), 0, 1, 1, 0},
		{slices.Concat(gives(1, golf(1, "a"), golf(1, "b")), gives(2, golf(1, "a"))), 3, 2, 2, 0},
		{gives(1, golf(1, "a"))[1:], 1, 0, 0, 0},
		{[]api.Fact{failed, open}, 0, 1, 0, 0},
		{[]api.Fact{open, failed}, 0, 1, 1, 1},
		{[]api.Fact{open, failed, answered(1, 1, api.CallOpen, api.Reply{})}, 0, 1, 1, 1},
		{[]api.Fact{open, answered(1, 1, api.CallOpen, api.Reply{}), failed}, 0, 1, 1, 0},
		{[]api.Fact{open, open, failed, failed}, 0, 2, 1, 1},
		{[]api.Fact{open, answered(2, 1, api.CallOpen, api.Reply{}), answered(1, 1, api.CallOver, api.Reply{}), answered(1, 2, api.CallOpen, api.Reply{})}, 0, 1, 0, 0},
	} {
		if got := Given(x.l); got != x.given {
			t.Errorf("%d: Given: %d", i, got)
		}
		if calls, answered, failing := Calls(x.l); calls != x.calls || answered != x.answered || failing != x.failing {
			t.Errorf("%d: Calls: %d, %d, %d", i, calls, answered, failing)
		}
	}
}

// Promise 24.2: the names that were registered, in the order of their first answers, folded.
func TestNames(t *testing.T) {
	reg := func(ticket int, s string) api.Fact {
		return called(1, ticket, api.Call{Kind: api.CallReg, Name: s})
	}
	ok := func(ticket int) api.Fact { return answered(1, ticket, api.CallReg, api.Reply{}) }
	bad := func(ticket int) api.Fact { return answered(1, ticket, api.CallReg, api.Reply{E: api.ErrThere}) }
	for i, x := range []struct {
		l    []api.Fact
		want []string
	}{
		{nil, nil}, {[]api.Fact{reg(1, "a")}, nil}, {[]api.Fact{ok(1)}, nil}, {[]api.Fact{ok(1), reg(1, "a")}, nil},
		{[]api.Fact{reg(1, "ÉMILE.X"), reg(2, "b"), ok(2), ok(1)}, []string{"b", "émile.x"}},
		{[]api.Fact{reg(1, "a"), bad(1), ok(1)}, nil}, {[]api.Fact{reg(1, "a"), ok(1), bad(1), ok(1)}, []string{"a"}},
		{[]api.Fact{reg(1, "a"), reg(1, "b"), ok(1)}, []string{"a"}}, {[]api.Fact{reg(1, "a"), reg(2, "A"), ok(1), ok(2)}, []string{"a", "a"}},
		{[]api.Fact{called(1, 1, api.Call{Kind: api.CallAdv, Name: "a"}), answered(1, 1, api.CallAdv, api.Reply{})}, nil},
		{[]api.Fact{reg(1, "\xffA"), ok(1)}, []string{"\xffA"}},
	} {
		if got := Names(x.l); !slices.Equal(got, x.want) {
			t.Errorf("%d: Names: %q", i, got)
		}
	}
}
