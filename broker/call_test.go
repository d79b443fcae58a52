package broker

import (
	"math"
	"slices"
	"strconv"
	"strings"
	"testing"

	"caduceus/api"
	"caduceus/filter"
	"caduceus/forest"
	"caduceus/link"
	"caduceus/view"
	"caduceus/wire"
)

// Promise 20.2: each call has a ticket, one more than the call ahead, whatever is answered; and its Kind.
func TestTickets(t *testing.T) {
	s := play(t, 1, firstView(t, 1))
	for i, c := range []api.Call{
		{Kind: api.CallOpen, N: 5}, {Kind: 0}, {Kind: -1}, {Kind: 11}, {Kind: math.MaxInt}, {Kind: math.MinInt},
		{Kind: api.CallOpen}, {Kind: api.CallReg, Session: 1, Name: "a"}, {Kind: api.CallReg, Session: 9}, {Kind: api.CallPoll, Session: 1},
	} {
		r, done := s.b.Call(c)
		if r.Ticket != i+1 || r.Kind != c.Kind || done == (i == 7) {
			t.Errorf("call %d: %+v, done %v", i+1, r, done)
		}
		if i >= 1 && i <= 5 && r.E != api.ErrArg {
			t.Errorf("of no kind: %+v", r)
		}
	}
	s.answers("of one", api.Reply{Ticket: 8, Kind: api.CallReg})
	s.answers("only once")
}

// Promise 20.2: what is answered at once, and that the sessions answer it.
func TestCallsOfSessions(t *testing.T) {
	s := play(t, 1, firstView(t, 1))
	open := func(n int) api.Call { return api.Call{Kind: api.CallOpen, N: n} }
	of := func(kind, session, n int) api.Call { return api.Call{Kind: kind, Session: session, N: n, Name: "News"} }
	for i, x := range []struct {
		c api.Call
		n int
		e api.Errno
	}{
		{open(0), 0, api.ErrArg}, {open(101), 0, api.ErrArg}, {open(1), 1, api.OK}, {open(100), 2, api.OK},
		{of(api.CallClose, 0, 0), 0, api.ErrNone}, {of(api.CallClose, 3, 0), 0, api.ErrNone}, {of(api.CallWithdraw, 3, 0), 0, api.ErrNone}, {of(api.CallWithdraw, 1, 0), 0, api.ErrNone},
		{of(api.CallUnsub, 3, 1), 0, api.ErrNone}, {of(api.CallUnsub, 1, 1), 0, api.ErrNone}, {of(api.CallPoll, 3, 1), 0, api.ErrNone}, {of(api.CallOver, 3, 1), 0, api.ErrNone},
		{of(api.CallReg, 1, 0), 0, api.OK}, {of(api.CallAdv, 1, 0), 0, api.OK}, {of(api.CallAdv, 1, 0), 0, api.ErrThere}, {of(api.CallSub, 1, 0), 1, api.OK}, {of(api.CallSub, 1, 0), 2, api.OK},
		{of(api.CallPub, 1, 0), 0, api.OK}, {of(api.CallOver, 1, 1), 0, api.OK}, {of(api.CallOver, 1, 2), 1, api.OK}, {of(api.CallUnsub, 2, 2), 0, api.ErrNone}, {of(api.CallUnsub, 1, 2), 0, api.OK}, {of(api.CallUnsub, 1, 2), 0, api.ErrNone},
		{of(api.CallWithdraw, 1, 0), 0, api.OK}, {of(api.CallPub, 1, 0), 0, api.ErrNone}, {of(api.CallClose, 1, 0), 0, api.OK}, {of(api.CallPoll, 1, 1), 0, api.ErrNone}, {open(3), 3, api.OK},
	} {
		r, done := s.b.Call(x.c)
		// The type is seen, and the second subscription asks for what the owner has heard of.
		later := x.c.Kind == api.CallReg || x.c.Kind == api.CallSub && x.n == 1
		if done == later {
			t.Errorf("%d: %+v: done %v", i, x.c, done)
		}
		if l := s.b.Replies(); !done && len(l) == 1 {
			r = l[0]
		}
		if r.E != x.e || r.N != x.n {
			t.Errorf("%d: %+v: %+v", i, x.c, r)
		}
	}
}

// Promise 20.2: the errors of CallReg, CallAdv and CallSub that are told at once, in their order; nothing is made for these.
func TestErrorsAheadOfAsking(t *testing.T) {
	v := firstView(t, 1, 2)
	s := play(t, 1, v)
	s.done(api.Call{Kind: api.CallOpen, N: 5})
	long := strings.Repeat("a", api.MaxName+1)
	wrongOwn := []api.Field{intField("b"), intField("a")}
	wrongF := []api.Pred{{Name: "a", Op: api.OpHas, L: []api.Value{{Kind: api.KindInt}}}}
	// What a kind of call does not have is not looked at.
	fill := func() {
		for len(s.b.asks) < MaxAsks {
			s.calls(api.Call{Kind: api.CallAdv, Session: 1, Name: "x", Own: wrongOwn, Parent: "a..b", F: wrongF, Attrs: make([]api.Attr, 25), N: -1})
		}
	}
	for _, full := range []bool{false, true} {
		if full {
			fill()
		}
		made := s.b.made
		for i, x := range []struct {
			c    api.Call
			want api.Errno
		}{
			{api.Call{Kind: api.CallReg, Session: 2, Own: wrongOwn, Name: "a..b"}, api.ErrNone},
			{api.Call{Kind: api.CallReg, Session: 1, Own: wrongOwn, Name: "a..b"}, api.ErrArg},
			{api.Call{Kind: api.CallReg, Session: 1, Name: "a..b", Parent: long}, api.ErrForm},
			{api.Call{Kind: api.CallReg, Session: 1, Name: "", Parent: long}, api.ErrForm},
			{api.Call{Kind: api.CallReg, Session: 1, Name: long, Parent: "a..b"}, api.ErrLong},
			{api.Call{Kind: api.CallReg, Session: 1, Name: "a", Parent: "a..b"}, api.ErrForm},
			{api.Call{Kind: api.CallReg, Session: 1, Name: "a", Parent: long}, api.ErrLong},
			{api.Call{Kind: api.CallAdv, Session: 2, Name: "a..b"}, api.ErrNone},
			{api.Call{Kind: api.CallAdv, Session: 0, Name: "a"}, api.ErrNone},
			{api.Call{Kind: api.CallAdv, Session: 1, Name: "a..b"}, api.ErrForm},
			{api.Call{Kind: api.CallAdv, Session: 1, Name: long}, api.ErrLong},
			{api.Call{Kind: api.CallSub, Session: 2, Name: "a..b", F: wrongF}, api.ErrNone},
			{api.Call{Kind: api.CallSub, Session: 1, Name: long, F: wrongF}, api.ErrLong},
			{api.Call{Kind: api.CallSub, Session: 1, Name: "a", F: wrongF}, api.ErrArg},
			{api.Call{Kind: api.CallSub, Session: 1, Name: "a", F: []api.Pred{{Name: "any", Op: api.OpHas}}}, api.ErrArg},
		} {
			if r := s.done(x.c); r.E != x.want || r.N != 0 {
				t.Errorf("full %v, %d: %+v: %+v", full, i, x.c, r)
			}
		}
		if s.b.made != made {
			t.Errorf("full %v: identities were made for errors", full)
		}
	}
	// Promise 20.2: ErrFull, if so many answers are outstanding.
	for _, kind := range []int{api.CallReg, api.CallAdv, api.CallSub} {
		if r := s.done(api.Call{Kind: kind, Session: 1, Name: "a"}); r.E != api.ErrFull {
			t.Errorf("kind %d, with %d answers outstanding: %+v", kind, MaxAsks, r)
		}
	}
	if s.b.made != MaxAsks || s.b.Replies() != nil {
		t.Errorf("%d identities were made", s.b.made)
	}
}

// Promise 20.2: when an answer came, there is room for another one.
func TestRoomForAnswers(t *testing.T) {
	v := firstView(t, 1, 2)
	s := play(t, 1, v)
	s.ready()
	s.done(api.Call{Kind: api.CallOpen, N: 5})
	n := owned(t, v, 2, 0)
	for i := range MaxAsks {
		s.calls(api.Call{Kind: []int{api.CallReg, api.CallAdv, api.CallSub}[i%3], Session: 1, Name: n})
	}
	full := api.Call{Kind: api.CallAdv, Session: 1, Name: n}
	if r := s.done(full); r.E != api.ErrFull {
		t.Fatalf("one too many: %+v", r)
	}
	if s.b.Waits() != MaxAsks || s.b.Idle() {
		t.Errorf("%d wait", s.b.Waits())
	}
	s.say(2, api.Msg{Kind: api.MsgTell, Req: id(1, 1, 4), E: api.ErrNone})
	s.answers("no answer to that")
	s.say(2, api.Msg{Kind: api.MsgRegOK, Req: id(1, 1, 4), E: api.ErrClash})
	s.answers("of the fourth", api.Reply{Ticket: 5, Kind: api.CallReg, E: api.ErrClash})
	s.calls(full)
	if r := s.done(full); r.E != api.ErrFull {
		t.Fatalf("one too many again: %+v", r)
	}
	// A subscription of which the owner has not heard is outstanding, too.
	s.say(2, api.Msg{Kind: api.MsgTell, Req: id(1, 1, 3), T: []api.Type{rootOf(t, n, id(2, 1, 1))}})
	if r := s.done(full); r.E != api.ErrFull {
		t.Fatalf("with a subscription: %+v", r)
	}
}

// Words: identities have the node, its life, and numbers that follow each other: of calls that ask, of events, and of parents that another one is asked for.
func TestIdentities(t *testing.T) {
	v := upOf(t, downOf(t, firstView(t, 1, 2), 1), 1)
	s := play(t, 1, v)
	s.ready()
	s.forget()
	s.done(api.Call{Kind: api.CallOpen, N: 5})
	n := owned(t, v, 2, 0)
	s.calls(api.Call{Kind: api.CallReg, Session: 1, Name: n})
	s.hears("CallReg", 2, api.Msg{Kind: api.MsgReg, Req: id(1, 2, 1), S: n})
	s.calls(api.Call{Kind: api.CallReg, Session: 1, Name: n, Parent: "up", Own: []api.Field{intField("a")}})
	s.hears("CallReg below", 2, api.Msg{Kind: api.MsgReg, Req: id(1, 2, 2), S: n, P: "up", Own: []api.Field{intField("a")}})
	s.done(api.Call{Kind: api.CallAdv, Session: 2, Name: n})
	s.calls(api.Call{Kind: api.CallAdv, Session: 1, Name: n})
	s.hears("CallAdv", 2, api.Msg{Kind: api.MsgAsk, Req: id(1, 2, 3), S: n})
	s.calls(api.Call{Kind: api.CallSub, Session: 1, Name: n})
	s.hears("CallSub", 2, api.Msg{Kind: api.MsgAsk, Req: id(1, 2, 4), S: n})
	x := rootOf(t, strings.ToUpper(n), id(2, 1, 1))
	s.say(2, api.Msg{Kind: api.MsgTell, Req: id(1, 2, 3), T: []api.Type{x}})
	s.answers("CallAdv", api.Reply{Ticket: 5, Kind: api.CallAdv})
	r := s.done(api.Call{Kind: api.CallPub, Session: 1, Name: n})
	if r.ID != id(1, 2, 5) || r.E != api.OK || r.N != 0 {
		t.Fatalf("CallPub: %+v", r)
	}
	s.hears("CallPub", 2, api.Msg{Kind: api.MsgPub, S: x.Name, X: api.Event{ID: r.ID, Type: x.Name}})
	if r := s.done(api.Call{Kind: api.CallPub, Session: 1, Name: "other"}); r.ID != (api.ID{}) || r.E != api.ErrNone {
		t.Fatalf("CallPub of what it does not advertise: %+v", r)
	}
	s.say(2, api.Msg{Kind: api.MsgReg, Req: id(2, 1, 9), S: owned(t, v, 1, 0), P: n})
	s.hears("a parent", 2, api.Msg{Kind: api.MsgAsk, Req: id(1, 2, 6), S: n})
}

// Promise 20.2: CallAdv and CallSub: later ErrNone, or what the sessions answer by then.
func TestLaterAnswers(t *testing.T) {
	v := firstView(t, 1, 2)
	s := play(t, 1, v)
	s.ready()
	s.done(api.Call{Kind: api.CallOpen, N: 5})
	n := owned(t, v, 2, 0)
	x := rootOf(t, n, id(2, 1, 1))
	tell := func(seq int) api.Msg { return api.Msg{Kind: api.MsgTell, Req: id(1, 1, seq), T: []api.Type{x}} }
	adv, sub := api.Call{Kind: api.CallAdv, Session: 1, Name: n}, api.Call{Kind: api.CallSub, Session: 1, Name: n}
	wrong := sub
	wrong.F = parsed(t, "b = 1")
	for _, c := range []api.Call{adv, sub, adv, adv, sub, wrong, sub, adv, sub} {
		s.calls(c)
	}
	s.say(2, api.Msg{Kind: api.MsgTell, Req: id(1, 1, 1), E: api.ErrNone}, api.Msg{Kind: api.MsgTell, Req: id(1, 1, 2), E: api.ErrNone}, tell(3), tell(4), tell(6))
	s.answers("later",
		api.Reply{Ticket: 2, Kind: api.CallAdv, E: api.ErrNone}, api.Reply{Ticket: 3, Kind: api.CallSub, E: api.ErrNone},
		api.Reply{Ticket: 4, Kind: api.CallAdv}, api.Reply{Ticket: 5, Kind: api.CallAdv, E: api.ErrThere}, api.Reply{Ticket: 7, Kind: api.CallSub, E: api.ErrNone})
	s.forget()
	s.say(2, tell(5))
	s.answers("the owner has not heard of it")
	s.hears("a subscription", 2, api.Msg{Kind: api.MsgSubs, S: n, Ver: 1, F: [][]api.Pred{nil}})
	// An answer that came is not heard again, and one to another call is none to this.
	s.say(2, tell(5), tell(3), api.Msg{Kind: api.MsgRegOK, Req: id(1, 1, 7), E: api.ErrClash}, api.Msg{Kind: api.MsgSubsOK, S: owned(t, v, 2, 1), Ver: 9})
	s.answers("nothing new")
	s.hears("nothing new", 2)
	s.say(2, api.Msg{Kind: api.MsgSubsOK, S: strings.ToUpper(n), Ver: 1})
	s.answers("the owner heard of it", api.Reply{Ticket: 6, Kind: api.CallSub, N: 1})
	s.done(api.Call{Kind: api.CallClose, Session: 1})
	s.say(2, tell(7), tell(8), tell(9))
	s.answers("of a session that is closed", api.Reply{Ticket: 8, Kind: api.CallSub, E: api.ErrNone}, api.Reply{Ticket: 9, Kind: api.CallAdv, E: api.ErrNone}, api.Reply{Ticket: 10, Kind: api.CallSub, E: api.ErrNone})
	if s.b.Waits() != 0 || !s.b.Idle() {
		t.Errorf("%d wait", s.b.Waits())
	}
}

// Promise 20.2: a type that was seen registered is not asked for again, in later views neither: CallAdv is done, and CallSub, if the owner heard of all that it asks for; identities are made all the same.
func TestSeenTypes(t *testing.T) {
	v := firstView(t, 1, 2)
	s := play(t, 1, v)
	s.ready()
	s.done(api.Call{Kind: api.CallOpen, N: 5})
	made, told := owned(t, v, 2, 0), owned(t, v, 2, 1)
	s.calls(api.Call{Kind: api.CallReg, Session: 1, Name: made})
	s.say(2, api.Msg{Kind: api.MsgRegOK, Req: id(1, 1, 1), T: []api.Type{rootOf(t, made, id(1, 1, 1))}})
	s.calls(api.Call{Kind: api.CallSub, Session: 1, Name: told, F: parsed(t, "b = 1")})
	s.say(2, api.Msg{Kind: api.MsgTell, Req: id(1, 1, 2), T: []api.Type{rootOf(t, told, id(2, 1, 1))}})
	s.answers("both", api.Reply{Ticket: 2, Kind: api.CallReg}, api.Reply{Ticket: 3, Kind: api.CallSub, E: api.ErrNone})
	s.forget()
	for i, n := range []string{made, told} {
		adv, wrong := api.Call{Kind: api.CallAdv, Session: 1, Name: strings.ToUpper(n)}, api.Call{Kind: api.CallSub, Session: 1, Name: n, F: parsed(t, `a = "x"`)}
		for k, want := range []api.Errno{api.OK, api.ErrThere} {
			if r := s.done(adv); r.E != want || r.N != 0 || r.ID != (api.ID{}) {
				t.Fatalf("CallAdv %d of %s: %+v", k, n, r)
			}
		}
		if r := s.done(wrong); r.E != api.ErrKind || r.N != 0 {
			t.Fatalf("CallSub of %s: %+v", n, r)
		}
		s.hears("nothing is asked", 2)
		ticket := s.calls(api.Call{Kind: api.CallSub, Session: 1, Name: n})
		s.hears("wants", 2, api.Msg{Kind: api.MsgSubs, S: n, Ver: 1 + i, F: [][]api.Pred{nil}})
		s.say(2, api.Msg{Kind: api.MsgSubsOK, S: n, Ver: 1 + i})
		s.answers("the owner heard of it", api.Reply{Ticket: ticket, Kind: api.CallSub, N: 1 + 2*i})
		if r := s.done(api.Call{Kind: api.CallSub, Session: 1, Name: n, F: parsed(t, "a = 1")}); r.N != 2+2*i || r.E != api.OK {
			t.Fatalf("CallSub of what the owner heard of: %+v", r)
		}
	}
	if r := s.done(api.Call{Kind: api.CallPub, Session: 1, Name: made}); r.ID != id(1, 1, 13) {
		t.Fatalf("behind 12 calls that ask: %+v", r)
	}
	s.enter(api.View{Epoch: 2, L: v.L})
	s.ready()
	s.forget()
	s.done(api.Call{Kind: api.CallWithdraw, Session: 1, Name: told})
	if r := s.done(api.Call{Kind: api.CallAdv, Session: 1, Name: told}); r.E != api.OK {
		t.Fatalf("CallAdv in a later view: %+v", r)
	}
	s.hears("nothing is asked in a later view", 2)
	s.calls(api.Call{Kind: api.CallReg, Session: 1, Name: made})
	s.hears("a registration is asked for", 2, api.Msg{Kind: api.MsgReg, Req: id(1, 1, 15), S: made})
	for len(s.b.asks) < MaxAsks {
		s.calls(api.Call{Kind: api.CallAdv, Session: 1, Name: owned(t, v, 2, 2)})
	}
	for _, c := range []api.Call{{Kind: api.CallAdv, Session: 1, Name: told}, {Kind: api.CallSub, Session: 1, Name: told}} {
		if r := s.done(c); r.E != api.ErrFull {
			t.Errorf("with %d answers outstanding: %+v", MaxAsks, r)
		}
	}
}

// Promise 20.2: what was refused, or is only to be kept, was not seen registered; of two types of one name the last one was.
func TestNotSeenTypes(t *testing.T) {
	v := firstView(t, 1, 2)
	s := play(t, 1, v)
	s.ready()
	s.done(api.Call{Kind: api.CallOpen, N: 5})
	n := owned(t, v, 2, 0)
	adv := api.Call{Kind: api.CallAdv, Session: 1, Name: n}
	s.calls(adv)
	s.say(2, api.Msg{Kind: api.MsgTell, Req: id(1, 1, 1), E: api.ErrNone})
	s.calls(api.Call{Kind: api.CallReg, Session: 1, Name: n})
	s.say(2, api.Msg{Kind: api.MsgRegOK, Req: id(1, 1, 2), E: api.ErrThere}, api.Msg{Kind: api.MsgStore, T: []api.Type{rootOf(t, n, id(2, 1, 1))}})
	s.answers("refused", api.Reply{Ticket: 2, Kind: api.CallAdv, E: api.ErrNone}, api.Reply{Ticket: 3, Kind: api.CallReg, E: api.ErrThere})
	s.forget()
	s.calls(adv)
	s.hears("it is asked for", 2, api.Msg{Kind: api.MsgAsk, Req: id(1, 1, 3), S: n})
	s.calls(api.Call{Kind: api.CallReg, Session: 1, Name: n})
	s.say(2, api.Msg{Kind: api.MsgTell, Req: id(1, 1, 3), T: []api.Type{rootOf(t, n, id(2, 1, 1))}}, api.Msg{Kind: api.MsgRegOK, Req: id(1, 1, 4), T: []api.Type{rootOf(t, strings.ToUpper(n), id(1, 1, 4))}})
	s.done(api.Call{Kind: api.CallWithdraw, Session: 1, Name: n})
	s.done(adv)
	if x, is := s.b.Sessions().Ad(1, n); !is || x.By != id(1, 1, 4) || x.Name != strings.ToUpper(n) {
		t.Errorf("it advertises %+v", x)
	}
	if b := New(1, upOf(t, downOf(t, v, 1), 1)); len(b.seen) != 0 {
		t.Errorf("one that begins anew has seen %+v", b.seen)
	}
}

// Promise 20.2: CallPub: the errors, in their order, how many events may be under way, and that the owners of their types are asked one behind the other.
func TestPublishes(t *testing.T) {
	v := firstView(t, 1, 2, 3)
	s := play(t, 1, v)
	s.ready()
	s.done(api.Call{Kind: api.CallOpen, N: 5})
	top := rootOf(t, owned(t, v, 2, 0), id(2, 1, 1))
	low, _ := forest.Below(top, owned(t, v, 3, 0), []api.Field{{Name: "b", Kind: api.KindText, Must: true}}, id(2, 1, 2))
	s.calls(api.Call{Kind: api.CallAdv, Session: 1, Name: low.Name})
	s.say(3, api.Msg{Kind: api.MsgTell, Req: id(1, 1, 1), T: []api.Type{low}})
	s.forget()
	text := func(n, s string) api.Attr { return api.Attr{Name: n, V: api.Value{Kind: api.KindText, S: s}} }
	good := []api.Attr{text("B", "x"), intAttr("a", 7)}
	pub := api.Call{Kind: api.CallPub, Session: 1, Name: strings.ToUpper(low.Name), Attrs: good}
	errors := func() {
		t.Helper()
		for i, x := range []struct {
			session int
			name    string
			attrs   []api.Attr
			want    api.Errno
		}{
			{2, low.Name, make([]api.Attr, 25), api.ErrNone}, {0, low.Name, good, api.ErrNone}, {1, top.Name, make([]api.Attr, 25), api.ErrNone}, {1, "", good, api.ErrNone},
			{1, low.Name, make([]api.Attr, 25), api.ErrLong}, {1, low.Name, []api.Attr{{Name: "a.b"}}, api.ErrArg}, {1, low.Name, []api.Attr{intAttr("a", 1), intAttr("A", 1)}, api.ErrClash},
			{1, low.Name, []api.Attr{intAttr("q", 1)}, api.ErrNone}, {1, low.Name, []api.Attr{text("a", "")}, api.ErrKind}, {1, low.Name, []api.Attr{intAttr("a", 1)}, api.ErrShort},
		} {
			if r := s.done(api.Call{Kind: api.CallPub, Session: x.session, Name: x.name, Attrs: x.attrs}); r.E != x.want || r.ID != (api.ID{}) {
				t.Errorf("%d: %+v: %+v", i, x, r)
			}
		}
	}
	errors()
	x := api.Event{Type: low.Name, Attrs: []api.Attr{intAttr("a", 7), text("B", "x")}}
	for i := range MaxPubs {
		r := s.done(pub)
		if r.E != api.OK || r.ID != id(1, 1, 2+i) {
			t.Fatalf("event %d: %+v", i, r)
		}
		x.ID = r.ID
		s.hears("an event", 3, api.Msg{Kind: api.MsgPub, S: low.Name, X: x})
	}
	s.hears("the first type's owner has not given it", 2)
	errors()
	if r := s.done(pub); r.E != api.ErrFull || s.b.Waits() != MaxPubs {
		t.Fatalf("one too many: %+v, %d wait", r, s.b.Waits())
	}
	done := func(of string) api.Msg { return api.Msg{Kind: api.MsgDone, Req: id(1, 1, 9), S: of} }
	s.say(2, done(top.Name))
	s.hears("that is not what was asked first", 2)
	s.say(3, done(low.Name), done(low.Name), api.Msg{Kind: api.MsgDone, Req: id(1, 1, 99), S: top.Name})
	x.ID = id(1, 1, 9)
	s.hears("the first type's owner has given it", 2, api.Msg{Kind: api.MsgPub, S: top.Name, X: x})
	if r := s.done(pub); r.E != api.ErrFull {
		t.Fatalf("one that is not given to all: %+v", r)
	}
	s.say(2, done(strings.ToUpper(top.Name)))
	if s.b.Waits() != MaxPubs-1 {
		t.Fatalf("%d wait", s.b.Waits())
	}
	if r := s.done(pub); r.E != api.OK || r.ID != id(1, 1, 2+MaxPubs) {
		t.Fatalf("behind one that was given to all: %+v", r)
	}
}

// Words: in a new view the events that are not given to all, and what clients asked for, are asked of the new owners, as they were.
func TestAsksAgain(t *testing.T) {
	v := firstView(t, 1, 2, 3, 4)
	s := play(t, 1, v)
	s.ready()
	s.done(api.Call{Kind: api.CallOpen, N: 5})
	top := rootOf(t, owned(t, v, 2, 0), id(2, 1, 1))
	low := belowOf(t, top, owned(t, v, 3, 0), id(2, 1, 2))
	s.calls(api.Call{Kind: api.CallAdv, Session: 1, Name: low.Name})
	s.say(3, api.Msg{Kind: api.MsgTell, Req: id(1, 1, 1), T: []api.Type{low}})
	s.answers("CallAdv", api.Reply{Ticket: 2, Kind: api.CallAdv})
	x := api.Event{ID: s.done(api.Call{Kind: api.CallPub, Session: 1, Name: low.Name}).ID, Type: low.Name}
	y := api.Event{ID: s.done(api.Call{Kind: api.CallPub, Session: 1, Name: low.Name}).ID, Type: low.Name}
	s.say(3, api.Msg{Kind: api.MsgDone, Req: x.ID, S: low.Name})
	sub := s.calls(api.Call{Kind: api.CallSub, Session: 1, Name: top.Name})
	reg := s.calls(api.Call{Kind: api.CallReg, Session: 1, Name: owned(t, v, 2, 1), Parent: "up", Own: []api.Field{intField("c")}})
	s.say(2, api.Msg{Kind: api.MsgTell, Req: id(1, 1, 4), T: []api.Type{top}})
	s.answers("nothing is answered yet")
	s.forget()
	w := downOf(t, v, 2)
	s.enter(w)
	// 1 is the next heir of what 2 owned: what is asked of it comes at once, and waits until it is ready.
	if s.b.owner(top.Name) != 1 || s.b.owner(low.Name) != 3 {
		t.Fatalf("the owners are %d and %d", s.b.owner(top.Name), s.b.owner(low.Name))
	}
	s.hears("asked again", 3, api.Msg{Kind: api.MsgReady}, api.Msg{Kind: api.MsgPub, S: low.Name, X: y})
	s.hears("asked again", 4, api.Msg{Kind: api.MsgReady})
	if rows := s.b.Wants(top.Name); len(rows) != 1 || rows[0].Node != 1 || rows[0].Ver != 2 {
		t.Fatalf("it knows of %+v", rows)
	}
	s.ready()
	up := s.b.owner("up")
	s.answers("it is ready", api.Reply{Ticket: sub, Kind: api.CallSub, N: 1})
	r := s.done(api.Call{Kind: api.CallPoll, Session: 1, N: 9})
	if len(r.G) != 1 || r.G[0].X.ID != x.ID || r.G[0].Of != top.Name {
		t.Fatalf("CallPoll: %+v", r)
	}
	if len(s.b.pubs) != 1 || len(s.b.asks) != 1 || s.b.asks[0].ticket != reg {
		t.Fatalf("%d events and %d answers wait", len(s.b.pubs), len(s.b.asks))
	}
	s.say(3, api.Msg{Kind: api.MsgDone, Req: y.ID, S: low.Name})
	r = s.done(api.Call{Kind: api.CallPoll, Session: 1, N: 9})
	if len(r.G) != 1 || r.G[0].X.ID != y.ID || r.G[0].Of != top.Name {
		t.Fatalf("CallPoll: %+v", r)
	}
	s.say(up, api.Msg{Kind: api.MsgTell, Req: id(1, 1, 6), E: api.ErrNone})
	s.answers("no parent", api.Reply{Ticket: reg, Kind: api.CallReg, E: api.ErrNone})
	if !s.b.Idle() {
		t.Errorf("%d wait", s.b.Waits())
	}
}

// Words: wants are told whenever they change, with a version that rises; who subscribes is answered when the owner has heard of them.
func TestTellsWants(t *testing.T) {
	v := firstView(t, 1, 2)
	s := play(t, 1, v)
	s.ready()
	s.done(api.Call{Kind: api.CallOpen, N: 5})
	s.done(api.Call{Kind: api.CallOpen, N: 5})
	n := owned(t, v, 2, 0)
	x := rootOf(t, strings.ToUpper(n), id(2, 1, 1))
	call := func(session int, f string) api.Call {
		return api.Call{Kind: api.CallSub, Session: session, Name: n, F: parsed(t, f)}
	}
	tells := func(ver int, l ...string) api.Msg {
		m := api.Msg{Kind: api.MsgSubs, S: n, Ver: ver}
		for _, f := range l {
			m.F = append(m.F, parsed(t, f))
		}
		return m
	}
	ok := func(ver int) api.Msg { return api.Msg{Kind: api.MsgSubsOK, S: n, Ver: ver} }
	reply := func(ticket, n int) api.Reply { return api.Reply{Ticket: ticket, Kind: api.CallSub, N: n} }
	s.forget()
	first := s.calls(call(1, "a >= 5"))
	s.hears("the type is asked for", 2, api.Msg{Kind: api.MsgAsk, Req: id(1, 1, 1), S: n})
	s.say(2, api.Msg{Kind: api.MsgTell, Req: id(1, 1, 1), T: []api.Type{x}})
	s.hears("the first one", 2, tells(1, "a >= 5"))
	second := s.calls(call(1, "a > 7"))
	s.hears("what is wanted already", 2)
	third := s.calls(call(2, "a = 1"))
	s.hears("another one", 2, tells(2, "a >= 5", "a = 1"))
	s.answers("not heard of")
	s.say(2, ok(1))
	s.answers("the first version", reply(first, 1), reply(second, 2))
	s.say(2, ok(2))
	s.answers("the second version", reply(third, 3))
	s.say(2, ok(1))
	if r := s.done(call(1, "a = 9")); r.N != 4 || r.E != api.OK {
		t.Fatalf("what the owner heard of already: %+v", r)
	}
	s.answers("what the owner heard of already")
	s.hears("what the owner heard of already", 2)
	s.done(api.Call{Kind: api.CallUnsub, Session: 1, N: 2})
	s.hears("one less, by which nothing changes", 2)
	s.done(api.Call{Kind: api.CallUnsub, Session: 1, N: 1})
	s.hears("one less", 2, tells(3, "a in { 1 , 9 }"))
	s.done(api.Call{Kind: api.CallClose, Session: 1})
	s.hears("a session less", 2, tells(4, "a = 1"))
	s.done(api.Call{Kind: api.CallClose, Session: 2})
	s.hears("all less", 2, tells(5))
	s.done(api.Call{Kind: api.CallClose, Session: 2})
	s.hears("closed already", 2)
}

// Words: what an owner heard of one type is nothing of another one.
func TestHearsOfEachType(t *testing.T) {
	v := firstView(t, 1, 2)
	s := play(t, 1, v)
	s.ready()
	s.done(api.Call{Kind: api.CallOpen, N: 5})
	var tickets [2]int
	for i := range tickets {
		n := owned(t, v, 2, i)
		tickets[i] = s.calls(api.Call{Kind: api.CallSub, Session: 1, Name: n})
		s.say(2, api.Msg{Kind: api.MsgTell, Req: id(1, 1, 1+i), T: []api.Type{rootOf(t, n, id(2, 1, 1+i))}})
	}
	for i := 1; i >= 0; i-- {
		s.answers("not heard of")
		s.say(2, api.Msg{Kind: api.MsgSubsOK, S: owned(t, v, 2, i), Ver: s.b.wants[owned(t, v, 2, i)].ver})
		s.answers("heard of", api.Reply{Ticket: tickets[i], Kind: api.CallSub, N: 1 + i})
	}
}

// Words: wants that no message may have are told as one filter that asks nothing.
func TestWantsTooLongForAMessage(t *testing.T) {
	v := firstView(t, 1, 2)
	s := play(t, 1, v)
	s.ready()
	n := owned(t, v, 2, 0)
	var fields []api.Field
	for _, c := range "abcdefghijkl" {
		fields = append(fields, api.Field{Name: string(c), Kind: api.KindText})
	}
	x, _ := forest.Root(n, fields, id(2, 1, 1))
	s.done(api.Call{Kind: api.CallOpen, N: 5})
	s.forget()
	var want [][]api.Pred
	for i := range 4 {
		f := longFilter(fields, i)
		want = append(want, f)
		if i == 3 {
			want = [][]api.Pred{nil}
		}
		s.calls(api.Call{Kind: api.CallSub, Session: 1, Name: n, F: f})
		if i == 0 {
			s.forget()
			s.say(2, api.Msg{Kind: api.MsgTell, Req: id(1, 1, 1), T: []api.Type{x}})
		}
		s.hears("wants", 2, api.Msg{Kind: api.MsgSubs, S: n, Ver: 1 + i, F: want})
	}
	s.done(api.Call{Kind: api.CallUnsub, Session: 1, N: 1})
	s.hears("short enough again", 2, api.Msg{Kind: api.MsgSubs, S: n, Ver: 5, F: [][]api.Pred{longFilter(fields, 1), longFilter(fields, 2), longFilter(fields, 3)}})
}

// longFilter asks for many long values; none covers another one of another number.
func longFilter(fields []api.Field, number int) (f []api.Pred) {
	for i, x := range fields {
		p := api.Pred{Name: x.Name, Op: api.OpIn}
		for k := range 4 {
			p.L = append(p.L, api.Value{Kind: api.KindText, S: strconv.Itoa(k) + strings.Repeat(string(rune('a'+number+i)), 190)})
		}
		f = append(f, p)
	}
	return f
}

// Words: wants of which the owner was to hear when the view changed are told again, also if they have gone since; so the answer comes.
func TestAnswersOfSubscriptionsThatWent(t *testing.T) {
	v := firstView(t, 1, 2)
	s := play(t, 1, v)
	s.ready()
	s.done(api.Call{Kind: api.CallOpen, N: 5})
	n := owned(t, v, 2, 0)
	ticket := s.calls(api.Call{Kind: api.CallSub, Session: 1, Name: n})
	s.say(2, api.Msg{Kind: api.MsgTell, Req: id(1, 1, 1), T: []api.Type{rootOf(t, n, id(2, 1, 1))}})
	s.done(api.Call{Kind: api.CallClose, Session: 1})
	s.forget()
	s.enter(api.View{Epoch: 2, L: v.L})
	s.hears("in the next view", 2, api.Msg{Kind: api.MsgSubs, S: n, Ver: 3}, api.Msg{Kind: api.MsgReady})
	s.ready()
	s.answers("not heard of yet")
	s.say(2, api.Msg{Kind: api.MsgSubsOK, S: n, Ver: 3})
	s.answers("heard of", api.Reply{Ticket: ticket, Kind: api.CallSub, N: 1})
	s.enter(api.View{Epoch: 3, L: v.L})
	s.hears("nothing is wanted", 2, api.Msg{Kind: api.MsgReady})
}

// Words: in a new epoch the owner is to hear anew of what it heard of in an earlier one.
func TestHearsAnewInANewEpoch(t *testing.T) {
	v := firstView(t, 1, 2)
	s := play(t, 1, v)
	s.ready()
	s.done(api.Call{Kind: api.CallOpen, N: 5})
	n := owned(t, v, 2, 0)
	s.subscribed(n, "any")
	s.enter(api.View{Epoch: 2, L: v.L})
	ticket := s.calls(api.Call{Kind: api.CallSub, Session: 1, Name: n})
	s.say(2, api.Msg{Kind: api.MsgSubsOK, S: n, Ver: 1})
	s.answers("the owner has not heard of it in this epoch")
	s.say(2, api.Msg{Kind: api.MsgSubsOK, S: n, Ver: 2})
	s.answers("it has", api.Reply{Ticket: ticket, Kind: api.CallSub, N: 2})
}

// R3: what is handed in to a call is not kept.
func TestCallsAreNotShared(t *testing.T) {
	v := firstView(t, 1, 2)
	s := play(t, 1, v)
	s.ready()
	s.done(api.Call{Kind: api.CallOpen, N: 5})
	mine, others := owned(t, v, 1, 0), owned(t, v, 2, 0)
	own := []api.Field{intField("a"), intField("b")}
	f := []api.Pred{{Name: "a", Op: api.OpIn, L: []api.Value{{Kind: api.KindInt, N: 1}, {Kind: api.KindInt, N: 2}}}}
	s.calls(api.Call{Kind: api.CallReg, Session: 1, Name: mine, Own: own})
	s.calls(api.Call{Kind: api.CallReg, Session: 1, Name: others, Own: own})
	s.calls(api.Call{Kind: api.CallSub, Session: 1, Name: others, F: f})
	clear(own)
	clear(f[0].L)
	clear(f)
	s.forget()
	s.enter(api.View{Epoch: 2, L: v.L})
	want := []api.Field{intField("a"), intField("b")}
	made, _ := forest.Root(mine, want, id(1, 1, 1))
	s.hears("asked again", 2, api.Msg{Kind: api.MsgHave, T: []api.Type{made}}, api.Msg{Kind: api.MsgReady},
		api.Msg{Kind: api.MsgReg, Req: id(1, 1, 2), S: others, Own: want}, api.Msg{Kind: api.MsgAsk, Req: id(1, 1, 3), S: others})
	s.ready()
	s.forget()
	s.say(2, api.Msg{Kind: api.MsgTell, Req: id(1, 1, 3), T: []api.Type{rootOf(t, others, id(2, 1, 1))}})
	s.hears("what was asked", 2, api.Msg{Kind: api.MsgSubs, S: others, Ver: 1, F: [][]api.Pred{parsed(t, "a in { 1 , 2 }")}})
	s.say(2, api.Msg{Kind: api.MsgStored, Req: made.By, S: mine})
	l := s.b.Types()
	clear(l[0].Own)
	clear(l[0].Chain)
	clear(l)
	if l := s.b.Types(); len(l) != 1 || !forest.Same(l[0], made) {
		t.Errorf("it keeps %+v", l)
	}
	s.done(api.Call{Kind: api.CallAdv, Session: 1, Name: mine})
	s.calls(api.Call{Kind: api.CallSub, Session: 1, Name: mine})
	attrs := []api.Attr{intAttr("b", 2), intAttr("a", 1)}
	s.done(api.Call{Kind: api.CallPub, Session: 1, Name: mine, Attrs: attrs})
	clear(attrs)
	r := s.done(api.Call{Kind: api.CallPoll, Session: 1, N: 9})
	if len(r.G) != 1 || !slices.Equal(r.G[0].X.Attrs, []api.Attr{intAttr("a", 1), intAttr("b", 2)}) {
		t.Errorf("CallPoll: %+v", r)
	}
}

// Promise 20.3: Take: what it refuses, and that it changes nothing then.
func TestTakeRefuses(t *testing.T) {
	v := downOf(t, upOf(t, downOf(t, firstView(t, 1, 2, 3), 2), 2), 3)
	b := New(1, v)
	b.Out()
	good := api.Packet{From: 2, To: 1, FromLife: 2, ToLife: 1, Seq: 1, Text: wire.Text(api.Msg{Kind: api.MsgReady, Epoch: v.Epoch})}
	for i, x := range []struct {
		change func(p *api.Packet)
		want   api.Errno
	}{
		{func(p *api.Packet) { *p = api.Packet{} }, api.ErrArg},
		{func(p *api.Packet) { p.From = 1 }, api.ErrArg},
		{func(p *api.Packet) { p.From = 16 }, api.ErrArg},
		{func(p *api.Packet) { p.From = -1 }, api.ErrArg},
		{func(p *api.Packet) { p.To = 3 }, api.ErrArg},
		{func(p *api.Packet) { p.To, p.From = 2, 1 }, api.ErrArg},
		{func(p *api.Packet) { p.Seq = 0 }, api.ErrArg},
		{func(p *api.Packet) { p.Ack = -1 }, api.ErrArg},
		{func(p *api.Packet) { p.Text = strings.Repeat("x", api.MaxPayload+1) }, api.ErrArg},
		{func(p *api.Packet) { p.From, p.To = 3, 2 }, api.ErrArg},
		{func(p *api.Packet) { p.From = 3 }, api.ErrNone},
		{func(p *api.Packet) { p.From = 15 }, api.ErrNone},
		{func(p *api.Packet) { p.FromLife = 1 }, api.ErrNone},
		{func(p *api.Packet) { p.FromLife = 3 }, api.ErrNone},
		{func(p *api.Packet) { p.ToLife = 2 }, api.ErrNone},
	} {
		p := good
		x.change(&p)
		if e := b.Take(p); e != x.want || b.Ready() || b.Out() != nil || b.Waits() != 1 {
			t.Errorf("%d: Take(%+v): %v, ready %v", i, p, e, b.Ready())
		}
	}
	if e := b.Take(good); e != api.OK || !b.Ready() {
		t.Errorf("Take: %v, ready %v", e, b.Ready())
	}
	if l := b.Out(); len(l) != 1 || l[0].Ack != 1 || l[0].To != 2 {
		t.Errorf("Out: %+v", l)
	}
	if b.Out() != nil {
		t.Errorf("Out again")
	}
	if e := b.Take(good); e != api.OK || len(b.Out()) != 1 {
		t.Errorf("the same again: %v", e)
	}
}

// Promise 20.3: what is handed on and is no message is passed over; what stands behind it is done.
func TestNoMessagesArePassedOver(t *testing.T) {
	v := firstView(t, 1, 2)
	s := play(t, 1, v)
	ready := wire.Text(api.Msg{Kind: api.MsgReady, Epoch: 1})
	for _, text := range []string{"", "x", ready + "x", ready[:1], "\x00\x01", "\x0f\x01", strings.Repeat("\xff", api.MaxPayload), ready} {
		if s.b.Ready() {
			t.Fatalf("ready ahead of %q", text)
		}
		out, _ := s.links[2].Send(text)
		s.takes(out)
	}
	s.meet()
	if !s.b.Ready() {
		t.Errorf("not ready")
	}
}

// Promise 20.3: Tick, Out, Waits and Idle.
func TestTicks(t *testing.T) {
	v := firstView(t, 1, 2, 3)
	b := New(1, v)
	first := b.Out()
	if len(first) != 2 || b.Waits() != 2 || b.Idle() || b.Out() != nil {
		t.Fatalf("at first: %+v, %d wait", first, b.Waits())
	}
	b.Tick()
	if l := b.Out(); !slices.Equal(l, first) {
		t.Fatalf("Tick: %+v", l)
	}
	for i, p := range first {
		x := link.New(api.Ends{Me: p.To, Life: 1, Peer: 1, PeerLife: 1, First: 1})
		_, back, _ := x.Take(p)
		b.Take(back[0])
		if b.Waits() != 1-i || b.Idle() {
			t.Errorf("%d wait", b.Waits())
		}
	}
	b.Tick()
	if b.Out() != nil {
		t.Errorf("ticks of nothing")
	}
	for node := 2; node <= 3; node++ {
		b.Take(api.Packet{From: node, To: 1, FromLife: 1, ToLife: 1, Seq: 1, Ack: 1, Text: wire.Text(api.Msg{Kind: api.MsgReady, Epoch: 1})})
	}
	if !b.Ready() || !b.Idle() {
		t.Errorf("ready %v, idle %v", b.Ready(), b.Idle())
	}
}

// Words: more messages than a link has room for wait at the broker, and go in order; those of an earlier epoch need not.
func TestMoreThanALinkHolds(t *testing.T) {
	v := firstView(t, 1, 2)
	s := play(t, 1, v)
	s.ready()
	s.forget()
	n := owned(t, v, 1, 0)
	s.say(2, api.Msg{Kind: api.MsgSubs, S: n, Ver: 1, F: [][]api.Pred{nil}})
	s.forget()
	const count = 3*link.MaxQueue + 5
	for i := range count {
		out, e := s.links[2].Send(wire.Text(api.Msg{Kind: api.MsgPub, Epoch: 1, S: n, X: api.Event{ID: id(2, 1, 1+i), Type: n}}))
		if e != api.OK {
			t.Fatal(e)
		}
		// The broker hears that they came, but what it sends does not come.
		s.takes(out)
		for _, p := range s.b.Out() {
			s.links[2].Take(api.Packet{From: 1, To: 2, FromLife: 1, ToLife: 1, Ack: p.Ack})
		}
	}
	if w := s.b.Waits(); w != count {
		t.Fatalf("%d wait, not %d", w, count)
	}
	for range 2 * count / link.Window {
		s.b.Tick()
		s.meet()
	}
	if s.b.Waits() != 0 || len(s.got[2]) != count {
		t.Fatalf("%d wait, %d came", s.b.Waits(), len(s.got[2]))
	}
	for i, m := range s.got[2] {
		if m.Kind != api.MsgGive || m.X.ID.Seq != 1+i {
			t.Fatalf("message %d: %+v", i, m)
		}
	}
}

// Words: what had no room in a link when the view changed does not go any more.
func TestWhatHadNoRoomGoesWithItsEpoch(t *testing.T) {
	v := firstView(t, 1, 2)
	b := New(1, v)
	n := owned(t, v, 2, 0)
	b.Call(api.Call{Kind: api.CallOpen, N: 5})
	for epoch := 2; epoch <= 50; epoch++ {
		for range MaxAsks {
			b.Call(api.Call{Kind: api.CallAdv, Session: 1, Name: n})
		}
		if e := b.Enter(api.View{Epoch: epoch, L: v.L}); e != api.OK {
			t.Fatal(e)
		}
		b.Out()
		if most := MaxAsks + link.MaxQueue + 1 + MaxAsks; b.Waits() > most {
			t.Fatalf("epoch %d: %d wait", epoch, b.Waits())
		}
	}
}

// Words: the types that are kept are said in messages of at most so many types, and bytes.
func TestHavesAreCut(t *testing.T) {
	v := firstView(t, 1, 2)
	for _, long := range []bool{false, true} {
		s := play(t, 1, v)
		for i := range api.MaxTypes {
			own := []api.Field{intField("a")}
			if long {
				own = longFields(api.MaxFields)
			}
			x, e := forest.Root("k"+strconv.Itoa(i), own, id(2, 1, 1+i))
			if e != api.OK {
				t.Fatal(e)
			}
			s.say(2, api.Msg{Kind: api.MsgHave, T: []api.Type{x}})
		}
		kept := s.b.Types()
		s.forget()
		s.enter(api.View{Epoch: 2, L: v.L})
		for range 100 {
			s.b.Tick()
			s.meet()
		}
		got := s.got[2]
		last := len(got) - 1
		if got[last].Kind != api.MsgReady || s.b.Waits() != 0 {
			t.Fatalf("it said %d things, the last one is %+v", len(got), got[last])
		}
		var said []api.Type
		for i, m := range got[:last] {
			if m.Kind != api.MsgHave || len(m.T) == 0 || !long && len(m.T) != api.MaxHave {
				t.Fatalf("it said %+v", m)
			}
			// Each message is as long as it may be: the next one's first type had no room.
			if i+1 < last && long {
				m.T = append(slices.Clone(m.T), got[i+1].T[0])
				if wire.Check(m) {
					t.Fatalf("message %d has room for one more", i)
				}
			}
			said = append(said, m.T[:len(got[i].T)]...)
		}
		if !slices.EqualFunc(said, kept, forest.Same) {
			t.Fatalf("it said %d types of %d", len(said), len(kept))
		}
	}
}

func longFields(count int) (l []api.Field) {
	for i := range count {
		l = append(l, intField(strings.Repeat("é", 30)+string(rune('a'+i))))
	}
	return l
}

// Promise 20.3: a nil broker.
func TestNil(t *testing.T) {
	var b *Broker
	v := firstView(t, 1, 2)
	if r, done := b.Call(api.Call{Kind: api.CallOpen, N: 5}); r.E != api.ErrArg || done || r.N != 0 || r.Ticket != 0 {
		t.Errorf("Call: %+v, %v", r, done)
	}
	b.Tick()
	p := api.Packet{From: 2, To: 1, FromLife: 1, ToLife: 1}
	if b.Enter(v) != api.ErrArg || b.Take(p) != api.ErrArg {
		t.Errorf("Enter or Take of none")
	}
	if b.Replies() != nil || b.Out() != nil || b.Idle() || b.Ready() || !sameView(b.View(), api.View{}) || b.Types() != nil || b.Wants("a") != nil || b.Sessions() != nil || b.Waits() != 0 {
		t.Errorf("none answers something")
	}
}

// Promise 20.1: what is wanted of a type is known to its owner alone.
func TestWantsOfOwnedTypes(t *testing.T) {
	w := newNetwork(t, 1, 2, 3)
	w.calm()
	for node := 1; node <= 3; node++ {
		w.call(node, api.Call{Kind: api.CallOpen, N: 5})
		w.over(node, api.Call{Kind: api.CallReg, Session: 1, Name: owned(t, w.newest(), node, 0), Own: []api.Field{intField("a")}})
	}
	for node := 1; node <= 3; node++ {
		for of := 1; of <= 3; of++ {
			w.over(node, api.Call{Kind: api.CallSub, Session: 1, Name: owned(t, w.newest(), of, 0), F: parsed(t, "a = "+strconv.Itoa(10*node+of))})
		}
	}
	for node := 1; node <= 3; node++ {
		for of := 1; of <= 3; of++ {
			rows := w.b[node].Wants(owned(t, w.newest(), of, 0))
			if node != of && rows != nil || node == of && len(rows) != 3 {
				t.Fatalf("%d knows of what %d owns: %+v", node, of, rows)
			}
			for i, row := range rows {
				if row.Node != i+1 || len(row.F) != 1 || !filter.Same(row.F[0], parsed(t, "a = "+strconv.Itoa(10*(i+1)+of))) {
					t.Fatalf("row %d of %d: %+v", i, of, row)
				}
			}
		}
	}
	// Each is an heir of all.
	for node := 1; node <= 3; node++ {
		if l := w.b[node].Types(); len(l) != 3 || len(view.Heirs(w.newest(), l[0].Name)) != 3 {
			t.Errorf("%d keeps %+v", node, l)
		}
	}
}
