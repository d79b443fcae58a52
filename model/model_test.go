package model

import (
	"math"
	"math/rand"
	"slices"
	"strconv"
	"strings"
	"testing"

	"caduceus/api"
	"caduceus/event"
	"caduceus/filter"
	"caduceus/forest"
	"caduceus/name"
	"caduceus/queue"
	"caduceus/session"
)

func parsed(t *testing.T, s string) []api.Pred {
	t.Helper()
	f, at, e := filter.Parse(s)
	if e != api.OK {
		t.Fatalf("%q goes wrong at %d: %v", s, at, e)
	}
	return f
}

func intField(s string) api.Field { return api.Field{Name: s, Kind: api.KindInt} }

func intAttr(s string, n int) api.Attr {
	return api.Attr{Name: s, V: api.Value{Kind: api.KindInt, N: n}}
}

func textAttr(n, s string) api.Attr {
	return api.Attr{Name: n, V: api.Value{Kind: api.KindText, S: s}}
}

func id(node, life, seq int) api.ID { return api.ID{Node: node, Life: life, Seq: seq} }

func sameGiven(a, b api.Given) bool {
	return a.Sub == b.Sub && a.Of == b.Of && event.Same(a.X, b.X)
}

func sameReply(a, b api.Reply) bool {
	return a.Ticket == b.Ticket && a.Kind == b.Kind && a.E == b.E && a.N == b.N && a.ID == b.ID && slices.EqualFunc(a.G, b.G, sameGiven)
}

// answers holds the answer to a call, whose kind it has, against what it should be.
func answers(t *testing.T, m *Model, node int, c api.Call, want api.Reply) {
	t.Helper()
	want.Kind = c.Kind
	if r := m.Call(node, c); !sameReply(r, want) {
		t.Fatalf("%+v at %d: %+v, not %+v", c, node, r, want)
	}
}

// begun is a model of nodes, each with a session of that room.
func begun(t *testing.T, room int, nodes ...int) *Model {
	t.Helper()
	m := New(nodes)
	for _, node := range nodes {
		answers(t, m, node, api.Call{Kind: api.CallOpen, N: room}, api.Reply{N: 1})
	}
	return m
}

// The example of the chapter.
func TestExample(t *testing.T) {
	m := begun(t, 5, 1, 2)
	answers(t, m, 1, api.Call{Kind: api.CallReg, Session: 1, Name: "News"}, api.Reply{})
	answers(t, m, 2, api.Call{Kind: api.CallSub, Session: 1, Name: "News"}, api.Reply{N: 1})
	answers(t, m, 1, api.Call{Kind: api.CallAdv, Session: 1, Name: "News"}, api.Reply{})
	answers(t, m, 1, api.Call{Kind: api.CallPub, Session: 1, Name: "News"}, api.Reply{ID: id(1, 1, 1)})
	if l := m.Left(2, 1); len(l) != 1 || !sameGiven(l[0], api.Given{Sub: 1, Of: "News", X: api.Event{ID: id(1, 1, 1), Type: "News"}}) {
		t.Fatalf("at 2 %+v is left", l)
	}
	if m.Left(1, 1) != nil {
		t.Errorf("at 1 %+v is left", m.Left(1, 1))
	}
}

// Promise 21.1: New.
func TestNew(t *testing.T) {
	for _, wrong := range [][]int{nil, {}, {0}, {-1}, {16}, {1, 1}, {2, 1}, {1, 2, 16}, {0, 1}, {math.MinInt}, {math.MaxInt}, make([]int, 100)} {
		if New(wrong) != nil {
			t.Errorf("a model of %v", wrong)
		}
	}
	nodes := []int{2, 3, 15}
	m := New(nodes)
	nodes[0] = 9
	if m.Types() != nil {
		t.Errorf("the registry has %+v at first", m.Types())
	}
	for _, node := range []int{2, 3, 15} {
		if m.Left(node, 1) != nil || m.Call(node, api.Call{Kind: api.CallClose, Session: 1}).E != api.ErrNone {
			t.Errorf("%d has a session at first", node)
		}
		answers(t, m, node, api.Call{Kind: api.CallOpen, N: 1}, api.Reply{N: 1})
	}
}

// Promises 21.1 and 21.2: nodes that are not there.
func TestNoSuchNode(t *testing.T) {
	m := begun(t, 5, 2, 3)
	for _, node := range []int{0, -1, 1, 4, 15, 16, 17, math.MinInt, math.MaxInt} {
		for _, kind := range []int{api.CallOpen, api.CallPub, 0, 99} {
			answers(t, m, node, api.Call{Kind: kind, N: 5}, api.Reply{E: api.ErrDown})
		}
		if e := m.Crash(node); e != api.ErrNone || m.Left(node, 1) != nil {
			t.Errorf("Crash of %d: %v", node, e)
		}
	}
}

// Promise 21.2: ErrArg, if the kind is none.
func TestNoKind(t *testing.T) {
	m := begun(t, 5, 1)
	for _, kind := range []int{0, 11, -1, 99, math.MinInt, math.MaxInt} {
		answers(t, m, 1, api.Call{Kind: kind, Session: 1, N: 5, Name: "x"}, api.Reply{E: api.ErrArg})
	}
}

// Promise 21.2: what sessions answer: their numbers, their errors, and how many there may be.
func TestSessions(t *testing.T) {
	m := New([]int{1, 2})
	for _, room := range []int{0, -1, queue.MaxRoom + 1} {
		answers(t, m, 1, api.Call{Kind: api.CallOpen, N: room}, api.Reply{E: api.ErrArg})
	}
	for i := range session.MaxSessions {
		answers(t, m, 1, api.Call{Kind: api.CallOpen, N: queue.MaxRoom}, api.Reply{N: 1 + i})
	}
	answers(t, m, 1, api.Call{Kind: api.CallOpen, N: 1}, api.Reply{E: api.ErrFull})
	answers(t, m, 2, api.Call{Kind: api.CallOpen, N: 1}, api.Reply{N: 1})
	answers(t, m, 1, api.Call{Kind: api.CallClose, Session: 3}, api.Reply{})
	answers(t, m, 1, api.Call{Kind: api.CallClose, Session: 3}, api.Reply{E: api.ErrNone})
	answers(t, m, 1, api.Call{Kind: api.CallOpen, N: 1}, api.Reply{N: session.MaxSessions + 1})
	for _, kind := range []int{api.CallClose, api.CallReg, api.CallAdv, api.CallWithdraw, api.CallSub, api.CallUnsub, api.CallPub, api.CallPoll, api.CallOver} {
		answers(t, m, 1, api.Call{Kind: kind, Session: 3, N: 1, Name: "..", Own: make([]api.Field, 30), F: make([]api.Pred, 1), Attrs: make([]api.Attr, 30)}, api.Reply{E: api.ErrNone})
	}
}

// Promise 21.2: CallReg: its errors, in their order, and then those of the registry.
func TestRegisters(t *testing.T) {
	m := begun(t, 5, 1, 2)
	long := strings.Repeat("a", api.MaxName+1)
	wrong := []api.Field{{Name: "a", Kind: 9}}
	reg := func(node int, n, parent string, own []api.Field, want api.Errno) {
		t.Helper()
		before := len(m.Types())
		answers(t, m, node, api.Call{Kind: api.CallReg, Session: 1, Name: n, Parent: parent, Own: own}, api.Reply{E: want})
		if grown := len(m.Types()) - before; grown != 0 && want != api.OK || grown != 1 && want == api.OK {
			t.Fatalf("%q: %d types more", n, grown)
		}
	}
	reg(1, "..", "..", wrong, api.ErrArg)
	reg(1, "..", long, nil, api.ErrForm)
	reg(1, long, "..", nil, api.ErrLong)
	reg(1, "News", "..", nil, api.ErrForm)
	reg(1, "News", long, nil, api.ErrLong)
	reg(1, "News", "top", nil, api.ErrNone)
	reg(1, "News", "news", nil, api.ErrNone)
	reg(1, "News", "", []api.Field{intField("a")}, api.OK)
	reg(2, "NEWS", "none", nil, api.ErrThere)
	reg(2, "Golf", "news", []api.Field{intField("A")}, api.ErrClash)
	reg(2, "Golf", "news", []api.Field{intField("b")}, api.OK)
	reg(1, "golf", "", nil, api.ErrThere)
	below := "Golf"
	for i := range api.MaxDepth - 2 {
		n := "t" + strconv.Itoa(i)
		reg(1+i%2, n, below, nil, api.OK)
		below = n
	}
	reg(1, "deep", below, nil, api.ErrLong)
	golf, is := forest.Find(m.Types(), "golf")
	if !is || golf.Name != "Golf" || golf.Parent != "News" || !slices.Equal(golf.Chain, []string{"Golf", "News"}) || len(golf.All) != 2 || len(golf.Own) != 1 {
		t.Errorf("Golf is %+v", golf)
	}
	checkRegistry(t, m)
}

// checkRegistry: the registry is a forest, and each type in it was made by itself.
func checkRegistry(t *testing.T, m *Model) {
	t.Helper()
	l := m.Types()
	if !forest.Is(l) {
		t.Fatalf("the registry is no forest: %+v", l)
	}
	made := map[api.ID]int{}
	for _, x := range l {
		made[x.By]++
		if made[x.By] > 1 {
			t.Fatalf("two types were made by %+v", x.By)
		}
	}
}

// P5: a registry has no room for more types than a forest may have.
func TestRegistryIsFull(t *testing.T) {
	m := begun(t, 5, 1, 2)
	for i := range api.MaxTypes + 3 {
		want := api.OK
		if i >= api.MaxTypes {
			want = api.ErrFull
		}
		answers(t, m, 1+i%2, api.Call{Kind: api.CallReg, Session: 1, Name: "t" + strconv.Itoa(i)}, api.Reply{E: want})
		if i%40 == 7 {
			m.Crash(2)
			answers(t, m, 2, api.Call{Kind: api.CallOpen, N: 5}, api.Reply{N: 1})
		}
	}
	answers(t, m, 1, api.Call{Kind: api.CallReg, Session: 1, Name: "T0"}, api.Reply{E: api.ErrThere})
	answers(t, m, 1, api.Call{Kind: api.CallAdv, Session: 1, Name: "t" + strconv.Itoa(api.MaxTypes)}, api.Reply{E: api.ErrNone})
	checkRegistry(t, m)
}

// Promise 21.2: CallAdv, CallWithdraw, CallSub and CallUnsub.
func TestAdvertisesAndSubscribes(t *testing.T) {
	m := begun(t, 5, 1, 2)
	answers(t, m, 1, api.Call{Kind: api.CallReg, Session: 1, Name: "News", Own: []api.Field{intField("a")}}, api.Reply{})
	wrong := []api.Pred{{Name: "a", Op: 77}}
	for _, x := range []struct {
		kind int
		name string
		f    []api.Pred
		want api.Reply
	}{
		{api.CallAdv, "", wrong, api.Reply{E: api.ErrForm}}, {api.CallAdv, strings.Repeat("a", 41), nil, api.Reply{E: api.ErrLong}}, {api.CallAdv, "none", nil, api.Reply{E: api.ErrNone}},
		{api.CallAdv, "NEWS", wrong, api.Reply{}}, {api.CallAdv, "news", nil, api.Reply{E: api.ErrThere}},
		{api.CallWithdraw, "none", nil, api.Reply{E: api.ErrNone}}, {api.CallWithdraw, "nEWS", nil, api.Reply{}}, {api.CallWithdraw, "news", nil, api.Reply{E: api.ErrNone}}, {api.CallAdv, "News", nil, api.Reply{}},
		{api.CallSub, "", wrong, api.Reply{E: api.ErrForm}}, {api.CallSub, strings.Repeat("a", 41), wrong, api.Reply{E: api.ErrLong}}, {api.CallSub, "none", wrong, api.Reply{E: api.ErrArg}}, {api.CallSub, "none", nil, api.Reply{E: api.ErrNone}},
		{api.CallSub, "News", parsed(t, "b = 1"), api.Reply{E: api.ErrNone}}, {api.CallSub, "News", parsed(t, `a = "x"`), api.Reply{E: api.ErrKind}}, {api.CallSub, "news", parsed(t, "a = 1"), api.Reply{N: 1}}, {api.CallSub, "NEWS", nil, api.Reply{N: 2}},
	} {
		answers(t, m, 2, api.Call{Kind: x.kind, Session: 1, Name: x.name, F: x.f}, x.want)
	}
	answers(t, m, 2, api.Call{Kind: api.CallUnsub, Session: 1, N: 3}, api.Reply{E: api.ErrNone})
	answers(t, m, 2, api.Call{Kind: api.CallUnsub, Session: 1, N: 1}, api.Reply{})
	answers(t, m, 2, api.Call{Kind: api.CallUnsub, Session: 1, N: 1}, api.Reply{E: api.ErrNone})
	answers(t, m, 1, api.Call{Kind: api.CallUnsub, Session: 1, N: 2}, api.Reply{E: api.ErrNone})
	answers(t, m, 1, api.Call{Kind: api.CallSub, Session: 1, Name: "News"}, api.Reply{N: 1})
	for i := 1; i < session.MaxSubs; i++ {
		answers(t, m, 2, api.Call{Kind: api.CallSub, Session: 1, Name: "News"}, api.Reply{N: 2 + i})
	}
	answers(t, m, 2, api.Call{Kind: api.CallSub, Session: 1, Name: "News"}, api.Reply{E: api.ErrFull})
	for i := range session.MaxAds {
		n, want := "t"+strconv.Itoa(i), api.Reply{}
		if i+1 == session.MaxAds {
			want.E = api.ErrFull
		}
		answers(t, m, 1, api.Call{Kind: api.CallReg, Session: 1, Name: n}, api.Reply{})
		answers(t, m, 2, api.Call{Kind: api.CallAdv, Session: 1, Name: n}, want)
	}
}

// Promise 21.2: CallPub: its errors, in their order; and identities, which no crash lets begin anew.
func TestPublishes(t *testing.T) {
	m := begun(t, 5, 1, 3)
	own := []api.Field{intField("a"), {Name: "b", Kind: api.KindText, Must: true}}
	answers(t, m, 1, api.Call{Kind: api.CallReg, Session: 1, Name: "News", Own: own}, api.Reply{})
	answers(t, m, 3, api.Call{Kind: api.CallAdv, Session: 1, Name: "news"}, api.Reply{})
	pub := func(node int, n string, want api.Reply, attrs ...api.Attr) {
		t.Helper()
		answers(t, m, node, api.Call{Kind: api.CallPub, Session: 1, Name: n, Attrs: attrs}, want)
	}
	pub(1, "News", api.Reply{E: api.ErrNone}, textAttr("b", "x"))
	pub(3, "other", api.Reply{E: api.ErrNone}, make([]api.Attr, 25)...)
	pub(3, "News", api.Reply{E: api.ErrLong}, make([]api.Attr, 25)...)
	pub(3, "News", api.Reply{E: api.ErrArg}, api.Attr{Name: "a.b"})
	pub(3, "News", api.Reply{E: api.ErrClash}, intAttr("a", 1), intAttr("A", 1))
	pub(3, "News", api.Reply{E: api.ErrNone}, intAttr("q", 1))
	pub(3, "News", api.Reply{E: api.ErrKind}, textAttr("a", "x"))
	pub(3, "News", api.Reply{E: api.ErrShort}, intAttr("a", 1))
	answers(t, m, 1, api.Call{Kind: api.CallSub, Session: 1, Name: "NEWS"}, api.Reply{N: 1})
	for i := range 3 {
		pub(3, "NEWS", api.Reply{ID: id(3, 1, 1+i)}, textAttr("B", "x"), intAttr("a", i))
	}
	want := api.Event{ID: id(3, 1, 2), Type: "News", Attrs: []api.Attr{intAttr("a", 1), textAttr("B", "x")}}
	if l := m.Left(1, 1); len(l) != 3 || !event.Same(l[1].X, want) {
		t.Fatalf("%+v is left", l)
	}
	m.Crash(3)
	m.Crash(3)
	pub(3, "News", api.Reply{E: api.ErrNone}, textAttr("b", "x"))
	answers(t, m, 3, api.Call{Kind: api.CallOpen, N: 1}, api.Reply{N: 1})
	answers(t, m, 3, api.Call{Kind: api.CallAdv, Session: 1, Name: "news"}, api.Reply{})
	// However many there are: none waits.
	for i := range 50 {
		pub(3, "News", api.Reply{ID: id(3, 3, 4+i)}, textAttr("b", "x"))
	}
}

// Promise 21.2: an event is given by each type of its Chain, the first one first; what has no room is counted.
func TestOrder(t *testing.T) {
	for room := 1; room <= 6; room++ {
		m := begun(t, room, 1, 2)
		for i, n := range []string{"Top", "Mid", "Low"} {
			answers(t, m, 1, api.Call{Kind: api.CallReg, Session: 1, Name: n, Parent: []string{"", "top", "mid"}[i]}, api.Reply{})
		}
		subs := []string{"top", "mid", "low", "mid", "top"}
		for node := 1; node <= 2; node++ {
			for i, n := range subs {
				answers(t, m, node, api.Call{Kind: api.CallSub, Session: 1, Name: n}, api.Reply{N: 1 + i})
			}
		}
		answers(t, m, 2, api.Call{Kind: api.CallAdv, Session: 1, Name: "low"}, api.Reply{})
		answers(t, m, 2, api.Call{Kind: api.CallPub, Session: 1, Name: "low"}, api.Reply{ID: id(2, 1, 1)})
		x := api.Event{ID: id(2, 1, 1), Type: "Low"}
		all := []api.Given{{Sub: 3, Of: "Low", X: x}, {Sub: 2, Of: "Mid", X: x}, {Sub: 4, Of: "Mid", X: x}, {Sub: 1, Of: "Top", X: x}, {Sub: 5, Of: "Top", X: x}}
		most := min(room, len(all))
		for node := 1; node <= 2; node++ {
			if l := m.Left(node, 1); !slices.EqualFunc(l, all[:most], sameGiven) {
				t.Fatalf("room %d, at %d %+v is left", room, node, l)
			}
			for i, g := range all {
				want := api.Reply{}
				if i >= most {
					want.N = 1
				}
				answers(t, m, node, api.Call{Kind: api.CallOver, Session: 1, N: g.Sub}, want)
			}
		}
		answers(t, m, 1, api.Call{Kind: api.CallPoll, Session: 1, N: 2}, api.Reply{G: all[:min(2, most)]})
		if l := m.Left(1, 1); !slices.EqualFunc(l, all[min(2, most):most], sameGiven) {
			t.Fatalf("room %d: %+v is left", room, l)
		}
		answers(t, m, 1, api.Call{Kind: api.CallPoll, Session: 1, N: 9}, api.Reply{G: all[min(2, most):most]})
		answers(t, m, 1, api.Call{Kind: api.CallPoll, Session: 1, N: 9}, api.Reply{})
	}
}

// Promise 21.1: Crash: a node's sessions go, and it begins anew; types, and what others have, stay.
func TestCrash(t *testing.T) {
	m := begun(t, 5, 1, 2)
	answers(t, m, 1, api.Call{Kind: api.CallOpen, N: 5}, api.Reply{N: 2})
	answers(t, m, 1, api.Call{Kind: api.CallReg, Session: 1, Name: "News"}, api.Reply{})
	for node := 1; node <= 2; node++ {
		answers(t, m, node, api.Call{Kind: api.CallAdv, Session: 1, Name: "News"}, api.Reply{})
		answers(t, m, node, api.Call{Kind: api.CallSub, Session: 1, Name: "News"}, api.Reply{N: 1})
	}
	answers(t, m, 1, api.Call{Kind: api.CallPub, Session: 1, Name: "News"}, api.Reply{ID: id(1, 1, 1)})
	if e := m.Crash(1); e != api.OK || m.Left(1, 1) != nil || len(m.Left(2, 1)) != 1 || len(m.Types()) != 1 {
		t.Fatalf("Crash: %v", e)
	}
	for id := 1; id <= 2; id++ {
		answers(t, m, 1, api.Call{Kind: api.CallClose, Session: id}, api.Reply{E: api.ErrNone})
	}
	answers(t, m, 2, api.Call{Kind: api.CallPub, Session: 1, Name: "News"}, api.Reply{ID: id(2, 1, 1)})
	answers(t, m, 1, api.Call{Kind: api.CallOpen, N: 5}, api.Reply{N: 1})
	answers(t, m, 1, api.Call{Kind: api.CallReg, Session: 1, Name: "news"}, api.Reply{E: api.ErrThere})
	answers(t, m, 1, api.Call{Kind: api.CallSub, Session: 1, Name: "News"}, api.Reply{N: 1})
	if m.Left(1, 1) != nil {
		t.Errorf("%+v is left of what was published ahead", m.Left(1, 1))
	}
	answers(t, m, 2, api.Call{Kind: api.CallPub, Session: 1, Name: "News"}, api.Reply{ID: id(2, 1, 2)})
	if l := m.Left(1, 1); len(l) != 1 || l[0].X.ID != id(2, 1, 2) || len(m.Left(2, 1)) != 3 {
		t.Errorf("%+v is left", l)
	}
}

// Promise 21.1: what stands in the queue of one that is not open.
func TestLeftOfNone(t *testing.T) {
	m := begun(t, 5, 1)
	for _, id := range []int{0, -1, 2, math.MinInt, math.MaxInt} {
		if m.Left(1, id) != nil {
			t.Errorf("%+v is left of %d", m.Left(1, id), id)
		}
	}
}

// R1: no model has no nodes.
func TestNil(t *testing.T) {
	var m *Model
	for kind := range 12 {
		answers(t, m, 1, api.Call{Kind: kind, N: 5}, api.Reply{E: api.ErrDown})
	}
	if m.Crash(1) != api.ErrNone || m.Types() != nil || m.Left(1, 1) != nil {
		t.Errorf("no model answers something")
	}
}

// R3: neither what is handed in nor what is answered is shared with what is kept.
func TestNothingIsShared(t *testing.T) {
	m := begun(t, 5, 1, 2)
	own := []api.Field{intField("a"), intField("b")}
	f := []api.Pred{{Name: "a", Op: api.OpIn, L: []api.Value{{Kind: api.KindInt, N: 1}, {Kind: api.KindInt, N: 2}}}}
	attrs := []api.Attr{intAttr("a", 1), intAttr("b", 2)}
	answers(t, m, 1, api.Call{Kind: api.CallReg, Session: 1, Name: "News", Own: own}, api.Reply{})
	answers(t, m, 1, api.Call{Kind: api.CallReg, Session: 1, Name: "Golf", Parent: "News"}, api.Reply{})
	clear(own)
	answers(t, m, 2, api.Call{Kind: api.CallAdv, Session: 1, Name: "Golf"}, api.Reply{})
	for node := 1; node <= 2; node++ {
		answers(t, m, node, api.Call{Kind: api.CallSub, Session: 1, Name: "News", F: f}, api.Reply{N: 1})
	}
	clear(f[0].L)
	clear(f)
	for _, x := range m.Types() {
		clear(x.Own)
		clear(x.All)
		clear(x.Chain)
	}
	l := m.Types()
	if !forest.Is(l) || len(l) != 2 || !slices.Equal(l[0].All, []api.Field{intField("a"), intField("b")}) {
		t.Fatalf("the registry has %+v", l)
	}
	answers(t, m, 2, api.Call{Kind: api.CallPub, Session: 1, Name: "Golf", Attrs: attrs}, api.Reply{ID: id(2, 1, 1)})
	want := slices.Clone(attrs)
	clear(attrs)
	for node := 1; node <= 2; node++ {
		for range 2 {
			l := m.Left(node, 1)
			if len(l) != 1 || !slices.Equal(l[0].X.Attrs, want) {
				t.Fatalf("at %d %+v is left", node, l)
			}
			clear(l[0].X.Attrs)
		}
		r := m.Call(node, api.Call{Kind: api.CallPoll, Session: 1, N: 9})
		if len(r.G) != 1 || !slices.Equal(r.G[0].X.Attrs, want) {
			t.Fatalf("%d takes %+v", node, r.G)
		}
		clear(r.G[0].X.Attrs)
	}
}

// subbed is a subscription, as a test knows it.
type subbed struct {
	node, session, number int
	of                    string
	f                     []api.Pred
}

// Promise 21.3: each event is given to each subscription that is there, whose type is one of its Chain and whose filter lets it by, just once, or did not come in.
func TestGivenJustOnce(t *testing.T) {
	for seed := range 40 {
		r := rand.New(rand.NewSource(int64(seed)))
		m := begun(t, 3, 1, 2, 5)
		titles := []string{"Top", "Mid", "Low", "Side"}
		for i, n := range titles {
			answers(t, m, 1, api.Call{Kind: api.CallReg, Session: 1, Name: n, Parent: []string{"", "top", "mid", "top"}[i], Own: []api.Field{intField("a" + strconv.Itoa(i))}}, api.Reply{})
			for _, node := range []int{1, 2, 5} {
				answers(t, m, node, api.Call{Kind: api.CallAdv, Session: 1, Name: n}, api.Reply{})
			}
		}
		var subs []subbed
		for range 60 {
			node := []int{1, 2, 5}[r.Intn(3)]
			switch r.Intn(5) {
			case 0:
				s := subbed{node: node, session: 1, of: titles[r.Intn(4)], f: parsed(t, []string{"any", "a0 > 2", "has a0", "a0 = 1"}[r.Intn(4)])}
				s.number = m.Call(node, api.Call{Kind: api.CallSub, Session: 1, Name: strings.ToUpper(s.of), F: s.f}).N
				if s.number > 0 {
					subs = append(subs, s)
				}
			case 1:
				if len(subs) > 0 {
					at := r.Intn(len(subs))
					s := subs[at]
					answers(t, m, s.node, api.Call{Kind: api.CallUnsub, Session: 1, N: s.number}, api.Reply{})
					subs = slices.Delete(subs, at, at+1)
				}
			case 2:
				m.Call(node, api.Call{Kind: api.CallPoll, Session: 1, N: r.Intn(4)})
			default:
				publishOne(t, m, r, node, titles[r.Intn(4)], subs)
			}
		}
	}
}

// publishOne publishes an event, and counts who is given it.
func publishOne(t *testing.T, m *Model, r *rand.Rand, node int, title string, subs []subbed) {
	t.Helper()
	over := func(s subbed) int {
		return m.Call(s.node, api.Call{Kind: api.CallOver, Session: s.session, N: s.number}).N
	}
	before := map[subbedAt]int{}
	for _, s := range subs {
		before[subbedAt{s.node, s.number}] = over(s)
	}
	attrs := []api.Attr{intAttr("a0", r.Intn(5))}[:r.Intn(2)]
	x := m.Call(node, api.Call{Kind: api.CallPub, Session: 1, Name: title, Attrs: attrs})
	if x.E != api.OK {
		t.Fatalf("CallPub: %+v", x)
	}
	kind, _ := forest.Find(m.Types(), title)
	for _, s := range subs {
		came := over(s) - before[subbedAt{s.node, s.number}]
		for _, g := range m.Left(s.node, s.session) {
			if g.Sub == s.number && g.X.ID == x.ID {
				came++
			}
		}
		want := 0
		if slices.ContainsFunc(kind.Chain, func(n string) bool { return name.Same(n, s.of) }) && filter.Lets(s.f, attrs) {
			want = 1
		}
		if came != want {
			t.Fatalf("%+v was given %+v of %q %d times, not %d", s, x.ID, title, came, want)
		}
	}
}

type subbedAt struct{ node, number int }

// Same arguments, same answers; and no call panics.
func TestSameArgumentsSameAnswers(t *testing.T) {
	play := func(seed int64) (l []api.Reply) {
		r := rand.New(rand.NewSource(seed))
		m := New([]int{1, 2, 9})
		titles := []string{"Top", "mid", "LOW", "..", ""}
		for range 400 {
			c := api.Call{Kind: r.Intn(12), Session: r.Intn(4), N: r.Intn(8) - 1, Name: titles[r.Intn(5)], Parent: titles[r.Intn(5)]}
			c.Own = []api.Field{{Name: "a", Kind: r.Intn(6)}}[:r.Intn(2)]
			c.F = []api.Pred{{Name: "a", Op: r.Intn(11), L: []api.Value{{Kind: r.Intn(6)}}}}[:r.Intn(2)]
			c.Attrs = []api.Attr{{Name: "a", V: api.Value{Kind: r.Intn(6)}}}[:r.Intn(2)]
			node := []int{1, 2, 9, 3}[r.Intn(4)]
			if r.Intn(40) == 0 {
				m.Crash(node)
			}
			l = append(l, m.Call(node, c))
		}
		return l
	}
	for seed := range int64(20) {
		first := play(seed)
		if again := play(seed); !slices.EqualFunc(again, first, sameReply) {
			t.Fatalf("seed %d: other answers than the first time", seed)
		}
	}
}
