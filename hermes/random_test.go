package hermes

import (
	"math/rand"
	"slices"
	"strconv"
	"strings"
	"testing"

	"caduceus/api"
	"caduceus/event"
	"caduceus/filter"
	"caduceus/forest"
	"caduceus/model"
	"caduceus/name"
)

// someNames: names of which nodes 2, 1, 3, 5, 8 and 13 are the owners, if they are up, and two more.
var someNames = []string{"tc0zpz", "tdwtps", "tc0zpe", "t7umk5", "tc0zpp", "t13nmj", "émile", "News.Sport"}

func anyCase(r *rand.Rand, s string) string {
	if r.Intn(3) == 0 {
		return strings.ToUpper(s)
	}
	return s
}

// someName is one of the first three often.
func someName(r *rand.Rand) string {
	return anyCase(r, someNames[r.Intn(3+r.Intn(2)*(len(someNames)-3))])
}

func parsed(t *testing.T, s string) []api.Pred {
	t.Helper()
	f, at, e := filter.Parse(s)
	if e != api.OK {
		t.Fatalf("%q goes wrong at %d: %v", s, at, e)
	}
	return f
}

func someFilter(r *rand.Rand, t *testing.T) []api.Pred {
	texts := []string{"any", "any", "a >= 3", "a < 2", "a = 1", "a in { 1 , 4 }", "has a", "a != 2", `b = "x"`, "zz = 1"}
	return parsed(t, texts[r.Intn(len(texts))])
}

func intField(s string) api.Field { return api.Field{Name: s, Kind: api.KindInt} }

func intAttr(s string, n int) api.Attr {
	return api.Attr{Name: s, V: api.Value{Kind: api.KindInt, N: n}}
}

// someCall is a call of a client, that often can be done.
func someCall(r *rand.Rand, t *testing.T) api.Call {
	c := api.Call{Kind: 1 + r.Intn(10), Session: 1 + r.Intn(3)}
	if r.Intn(3) == 0 {
		c.Kind = []int{api.CallPub, api.CallSub, api.CallPub}[r.Intn(3)]
	}
	switch c.Kind {
	case api.CallOpen:
		c.N = 100 - r.Intn(101)*r.Intn(2)
	case api.CallClose:
		if r.Intn(8) > 0 {
			c.Kind, c.N = api.CallPoll, 100
		}
	case api.CallReg:
		c.Name = someName(r)
		if r.Intn(2) == 0 {
			c.Parent = someName(r)
		}
		if r.Intn(3) == 0 {
			c.Own = []api.Field{intField("a")}
		}
	case api.CallAdv, api.CallWithdraw:
		c.Name = someName(r)
	case api.CallSub:
		c.Name, c.F = someName(r), someFilter(r, t)
	case api.CallUnsub, api.CallOver:
		c.N = 1 + r.Intn(6)
	case api.CallPub:
		c.Session, c.Name = 1+r.Intn(2), anyCase(r, someNames[r.Intn(3)])
		if r.Intn(2) == 0 {
			c.Attrs = []api.Attr{intAttr("a", r.Intn(6))}
		}
	case api.CallPoll:
		c.N = r.Intn(20)
	}
	return c
}

// wrongCall is a call that often has something that may not be.
func wrongCall(r *rand.Rand, t *testing.T) api.Call {
	c := someCall(r, t)
	switch r.Intn(12) {
	case 0:
		c.Kind = r.Intn(40) - 20
	case 1:
		c.Session = r.Intn(40) - 20
	case 2:
		c.Name = []string{"", "a..b", "none", "1", strings.Repeat("a", 41)}[r.Intn(5)]
	case 3:
		c.Parent = []string{"a..b", "none", "1", "x.", c.Name}[r.Intn(5)]
	case 4:
		c.N = r.Intn(300) - 100
	case 5:
		c.F = []api.Pred{{Name: "a", Op: r.Intn(12), L: []api.Value{{Kind: r.Intn(6)}}}}
	case 6:
		c.Attrs = []api.Attr{intAttr("b", 1), intAttr("a", 1), {Name: "a", V: api.Value{Kind: r.Intn(6)}}}[r.Intn(3):]
	case 7:
		c.Own = []api.Field{{Name: "c", Kind: r.Intn(7)}, {Name: "b", Kind: api.KindInt}}[r.Intn(2):]
	}
	return c
}

// begun is a network in which some types are registered, one below the other, and each node has sessions.
func begun(t *testing.T, r *rand.Rand, nodes ...int) *watch {
	t.Helper()
	w := newWatch(t, nodes...)
	w.over(nodes[0], api.Call{Kind: api.CallOpen, N: 1})
	a := []api.Field{intField("a")}
	for _, c := range []api.Call{{Name: someNames[0], Own: a}, {Name: someNames[1], Parent: someNames[0]}, {Name: someNames[2], Parent: someNames[1]}, {Name: someNames[3]}} {
		c.Kind, c.Session = api.CallReg, 1
		if x := w.over(nodes[0], c); x.E != api.OK {
			t.Fatalf("%+v: %+v", c, x)
		}
	}
	w.over(nodes[0], api.Call{Kind: api.CallClose, Session: 1})
	for _, node := range nodes {
		w.openAt(node, r)
	}
	w.calm()
	return w
}

// openAt opens sessions, and lets them advertise and subscribe.
func (w *watch) openAt(node int, r *rand.Rand) {
	w.t.Helper()
	for range 2 {
		id := w.answers[w.call(node, api.Call{Kind: api.CallOpen, N: 100 - 98*r.Intn(2)})].N
		for _, n := range someNames[:3] {
			w.call(node, api.Call{Kind: api.CallAdv, Session: id, Name: n})
		}
		w.call(node, api.Call{Kind: api.CallSub, Session: id, Name: someNames[r.Intn(3)], F: someFilter(r, w.t)})
	}
}

// stir lets something happen to a packet.
func (w *watch) stir(r *rand.Rand, lossy bool) {
	w.t.Helper()
	hops := w.h.Hops()
	if len(hops) == 0 {
		return
	}
	x := hops[r.Intn(len(hops))]
	d := api.Deed{Kind: api.DeedCome, Node: x.From, To: x.To, I: r.Intn(w.h.Len(x)) * r.Intn(2)}
	switch k := r.Intn(10); {
	case k == 0 && lossy:
		d.Kind = api.DeedLose
	case k == 1 && lossy:
		d.Kind = api.DeedTwice
	}
	if _, e := w.do(d); e != api.OK && !(e == api.ErrFull && d.Kind == api.DeedTwice) {
		w.t.Fatalf("%+v: %v", d, e)
	}
}

func (w *watch) someNode(r *rand.Rand) int {
	l := w.up()
	return l[r.Intn(len(l))]
}

// crashOrRise lets one that is up go, or one that is not come.
func (w *watch) crashOrRise(r *rand.Rand, nodes []int, least int) {
	w.t.Helper()
	node := nodes[r.Intn(len(nodes))]
	if w.h.Broker(node) == nil {
		w.must(api.Deed{Kind: api.DeedRise, Node: node})
		w.checkAnew(node)
		w.openAt(node, r)
	} else if len(w.up()) > least {
		w.must(api.Deed{Kind: api.DeedCrash, Node: node})
		if w.h.Broker(node) != nil {
			w.t.Fatalf("%d crashed, and is up", node)
		}
	}
}

// checkAnew: who comes up has nothing, and begins anew (22.5).
func (w *watch) checkAnew(node int) {
	w.t.Helper()
	b := w.h.Broker(node)
	if b == nil || !sameView(b.View(), w.h.View()) || b.Types() != nil || b.Sessions().Types() != nil || b.Sessions().IsOpen(1) {
		w.t.Fatalf("%d came up as %+v", node, b)
	}
}

// learn lets a node enter the next view, if there is one.
func (w *watch) learn(node int) {
	w.t.Helper()
	old := w.h.Broker(node).View().Epoch
	_, e := w.do(api.Deed{Kind: api.DeedLearn, Node: node})
	if newer := w.h.View().Epoch > old; newer != (e == api.OK) || e != api.OK && e != api.ErrNone {
		w.t.Fatalf("%d learns in epoch %d of %d: %v", node, old, w.h.View().Epoch, e)
	}
}

// Promises 22.2, 22.3, 22.5 and 22.6 without crashes: packets are lost, doubled and late, nodes are apart.
func TestPacketsLostDoubledAndLate(t *testing.T) {
	for seed := range 40 {
		r := rand.New(rand.NewSource(int64(seed)))
		w := begun(t, r, []int{1, 2, 3, 5, 8}[:1+r.Intn(5)]...)
		for range 250 {
			switch x := r.Intn(20); {
			case x < 6:
				w.call(w.someNode(r), someCall(r, t))
			case x == 6:
				w.must(api.Deed{Kind: api.DeedTick, Node: w.someNode(r)})
			case x == 7 && r.Intn(3) == 0:
				w.do(api.Deed{Kind: api.DeedApart, Node: w.someNode(r), To: w.someNode(r), On: r.Intn(2) == 0})
			case x == 8 && r.Intn(10) == 0:
				w.calm()
				w.check()
			default:
				w.stir(r, true)
			}
		}
		w.calm()
		w.check()
		w.checkFound()
	}
}

// Promises 22.2, 22.3, 22.5 and 22.6, while brokers crash, come up again, and learn of that one by one.
func TestCrashes(t *testing.T) {
	for seed := range 60 {
		r := rand.New(rand.NewSource(int64(1000 + seed)))
		nodes := []int{1, 2, 3, 5, 8, 13}[:2+r.Intn(5)]
		w := begun(t, r, nodes...)
		for range 250 {
			switch x := r.Intn(24); {
			case x < 6:
				w.call(w.someNode(r), someCall(r, t))
			case x == 6:
				w.must(api.Deed{Kind: api.DeedTick, Node: w.someNode(r)})
			case x == 7 && r.Intn(4) == 0:
				w.crashOrRise(r, nodes, 1)
			case x == 8 || x == 9:
				w.learn(w.someNode(r))
			case x == 10 && r.Intn(12) == 0:
				w.calm()
				w.check()
			case x == 11 && r.Intn(6) == 0:
				w.do(api.Deed{Kind: api.DeedApart, Node: w.someNode(r), To: w.someNode(r), On: r.Intn(2) == 0})
			default:
				w.stir(r, r.Intn(2) == 0)
			}
		}
		w.calm()
		w.check()
	}
}

// Promise 22.4: a name is registered once, and found behind that, also if one broker crashes between one end and the next.
func TestTypesOutliveTheirOwners(t *testing.T) {
	for seed := range 25 {
		r := rand.New(rand.NewSource(int64(2000 + seed)))
		nodes := []int{1, 2, 3, 5, 8, 13}[:2+r.Intn(5)]
		w := begun(t, r, nodes...)
		for range 8 {
			for range 30 {
				switch x := r.Intn(12); {
				case x < 4:
					w.call(w.someNode(r), someCall(r, t))
				case x == 4:
					w.must(api.Deed{Kind: api.DeedTick, Node: w.someNode(r)})
				default:
					w.stir(r, true)
				}
			}
			w.crashOrRise(r, nodes, 1)
			for range 30 {
				w.stir(r, true)
				w.learn(w.someNode(r))
				if r.Intn(6) == 0 {
					w.call(w.someNode(r), someCall(r, t))
				}
			}
			w.calm()
			w.check()
			w.checkFound()
		}
	}
}

// sameAnswer tells whether a network answers as a model: events are alike, and published by the same, whatever their numbers.
func sameAnswer(a, b api.Reply) bool {
	return a.Kind == b.Kind && a.E == b.E && a.N == b.N && a.ID.Node == b.ID.Node &&
		slices.EqualFunc(a.G, b.G, func(g, h api.Given) bool {
			return g.Sub == h.Sub && g.Of == h.Of && event.Alike(g.X, h.X) && g.X.ID.Node == h.X.ID.Node
		})
}

// modelled is a network beside a model of it.
type modelled struct {
	*watch
	m *model.Model
}

// both lets both do a call, which is over behind that: whatever becomes of packets until then.
func (w modelled) both(r *rand.Rand, node int, c api.Call) {
	w.t.Helper()
	want := w.m.Call(node, c)
	at := w.call(node, c)
	for range r.Intn(12) {
		w.stir(r, true)
		if r.Intn(8) == 0 {
			w.must(api.Deed{Kind: api.DeedTick, Node: w.someNode(r)})
		}
	}
	w.calm()
	if got, is := w.answers[at]; !is || !sameAnswer(got, want) {
		w.t.Fatalf("%+v at %d: %+v; a model: %+v", c, node, got, want)
	}
}

// sameTypes: the brokers keep the types that a model has.
func (w modelled) sameTypes() {
	w.t.Helper()
	kept := w.kept()
	types := w.m.Types()
	for _, t := range types {
		x := kept[name.Fold(t.Name)]
		x.By = t.By
		if !forest.Same(x, t) {
			w.t.Fatalf("the brokers keep %+v; a model has %+v", x, t)
		}
	}
	if len(kept) != len(types) {
		w.t.Fatalf("the brokers keep %d types; a model has %d", len(kept), len(types))
	}
}

// begunModelled has types, one below the other, which a session of each node advertises, with at most that room.
func begunModelled(t *testing.T, r *rand.Rand, room int, nodes ...int) modelled {
	t.Helper()
	w := modelled{newWatch(t, nodes...), model.New(nodes)}
	for _, node := range nodes {
		w.both(r, node, api.Call{Kind: api.CallOpen, N: 1 + r.Intn(room)})
	}
	for i, n := range someNames[:3] {
		own := []api.Field{intField("a")}
		if i > 0 {
			own = nil
		}
		w.both(r, nodes[0], api.Call{Kind: api.CallReg, Session: 1, Name: n, Parent: [3]string{"", someNames[0], someNames[1]}[i], Own: own})
	}
	for _, node := range nodes {
		for _, n := range someNames[:3] {
			w.both(r, node, api.Call{Kind: api.CallAdv, Session: 1, Name: n})
		}
	}
	return w
}

// Promise 22.4: calls that are over before the next one begins are answered as by a model.
func TestAnswersAsAModel(t *testing.T) {
	for seed := range 60 {
		r := rand.New(rand.NewSource(int64(3000 + seed)))
		nodes := []int{1, 2, 3, 5, 8, 13}[:1+r.Intn(6)]
		w := begunModelled(t, r, 4, nodes...)
		for _, node := range nodes {
			w.both(r, node, api.Call{Kind: api.CallSub, Session: 1, Name: someName(r), F: someFilter(r, t)})
		}
		for range 120 {
			w.both(r, w.someNode(r), wrongCall(r, t))
		}
		w.check()
		w.sameTypes()
	}
}

// Promise 22.4: also where there is no room for more: what comes in is what came in with a model.
func TestAnswersAsAModelWithoutRoom(t *testing.T) {
	for seed := range 20 {
		r := rand.New(rand.NewSource(int64(4000 + seed)))
		nodes := []int{1, 2, 3, 5, 8}
		w := begunModelled(t, r, 3, nodes...)
		for _, node := range nodes {
			for _, n := range someNames[:3] {
				w.both(r, node, api.Call{Kind: api.CallSub, Session: 1, Name: n})
			}
		}
		for range 20 {
			w.both(r, w.someNode(r), api.Call{Kind: api.CallPub, Session: 1, Name: someNames[r.Intn(3)]})
			node := w.someNode(r)
			w.both(r, node, api.Call{Kind: api.CallPoll, Session: 1, N: r.Intn(3)})
			for sub := 1; sub <= 3; sub++ {
				w.both(r, node, api.Call{Kind: api.CallOver, Session: 1, N: sub})
			}
		}
		w.check()
	}
}

// Promise 22.4: the registry is full, for three brokers, when that of a model is.
func TestAnswersAsAModelOfAFullRegistry(t *testing.T) {
	nodes := []int{1, 2, 3}
	r := rand.New(rand.NewSource(1))
	w := modelled{newWatch(t, nodes...), model.New(nodes)}
	for _, node := range nodes {
		w.both(r, node, api.Call{Kind: api.CallOpen, N: 1})
	}
	for i := range api.MaxTypes + 5 {
		w.both(r, nodes[i%3], api.Call{Kind: api.CallReg, Session: 1, Name: "t" + strconv.Itoa(i)})
	}
	w.sameTypes()
	w.check()
}

// Same deeds, same facts, and as many packets.
func TestSameDeedsSameFacts(t *testing.T) {
	play := func(seed int64) ([]api.Fact, int) {
		r := rand.New(rand.NewSource(seed))
		nodes := []int{1, 2, 3, 5}
		w := begun(t, r, nodes...)
		ways := 0
		for range 200 {
			switch x := r.Intn(12); {
			case x < 4:
				w.call(w.someNode(r), someCall(r, t))
			case x == 4 && r.Intn(4) == 0:
				w.crashOrRise(r, nodes, 1)
			case x == 5:
				w.learn(w.someNode(r))
			default:
				w.stir(r, true)
			}
			ways = ways*31 + w.h.Way()
		}
		w.calm()
		return w.h.Facts(), ways
	}
	for seed := range int64(5) {
		first, ways := play(seed)
		for range 2 {
			if l, more := play(seed); !slices.EqualFunc(l, first, sameFact) || more != ways {
				t.Fatalf("seed %d: other facts than the first time", seed)
			}
		}
	}
}
