package broker

import (
	"math/rand"
	"slices"
	"strconv"
	"strings"
	"testing"

	"caduceus/api"
	"caduceus/event"
	"caduceus/filter"
	"caduceus/forest"
	"caduceus/name"
	"caduceus/net"
	"caduceus/session"
	"caduceus/view"
	"caduceus/wire"
)

// network is brokers and the packets between them, and all that its clients were told.
type network struct {
	t     *testing.T
	views []api.View // the last one is the newest
	b     [places]*Broker
	way   *net.Net
	now   int // how many things were done
	sent  strings.Builder

	calls   map[calledAt]api.Call
	replies map[calledAt]api.Reply
	subs    map[subAt]*subbed
	pubs    map[api.ID]published
	given   map[subAt]map[api.ID]int
	regs    map[string]int // how often each name was registered
}

type calledAt struct{ node, life, ticket int }

type subAt struct{ node, life, sub int }

// subbed is a subscription, as its client knows it: when it was answered, and ended (0: not).
type subbed struct {
	session  int
	of       string
	f        []api.Pred
	answered int
	ended    int
}

// published is an event, the types that it is of, and when it was published.
type published struct {
	x     api.Event
	chain []string
	at    int
}

func newNetwork(t *testing.T, nodes ...int) *network {
	t.Helper()
	v, e := view.First(nodes)
	if e != api.OK {
		t.Fatal(e)
	}
	w := &network{
		t:       t,
		views:   []api.View{v},
		way:     net.New(),
		calls:   map[calledAt]api.Call{},
		replies: map[calledAt]api.Reply{},
		subs:    map[subAt]*subbed{},
		pubs:    map[api.ID]published{},
		given:   map[subAt]map[api.ID]int{},
		regs:    map[string]int{},
	}
	for _, node := range nodes {
		w.b[node] = New(node, v)
	}
	w.behind()
	return w
}

func (w *network) newest() api.View { return w.views[len(w.views)-1] }

// up are the nodes that are up.
func (w *network) up() (l []int) {
	for node, b := range w.b {
		if b != nil {
			l = append(l, node)
		}
	}
	return l
}

// behind lets what brokers send go under way, and hears what they answer.
func (w *network) behind() {
	w.now++
	for _, node := range w.up() {
		for _, p := range w.b[node].Out() {
			w.sent.WriteString(wire.PacketText(p))
			if e := w.way.Send(p); e != api.OK && e != api.ErrFull {
				w.t.Fatalf("%d sends %+v: %v", node, p, e)
			}
		}
		for _, r := range w.b[node].Replies() {
			w.hear(node, r)
		}
		if asks, pubs := len(w.b[node].asks), len(w.b[node].pubs); asks > MaxAsks || pubs > MaxPubs {
			w.t.Fatalf("%d waits for %d answers, and has %d events", node, asks, pubs)
		}
	}
}

// hear notes an answer.
func (w *network) hear(node int, r api.Reply) {
	at := calledAt{node, w.b[node].life, r.Ticket}
	c, called := w.calls[at]
	if _, again := w.replies[at]; again || !called || c.Kind != r.Kind {
		w.t.Fatalf("%d answers %+v to %+v, again: %v", node, r, c, again)
	}
	w.replies[at] = r
	if r.E != api.OK {
		return
	}
	switch r.Kind {
	case api.CallReg:
		w.regs[name.Fold(c.Name)]++
	case api.CallSub:
		w.subs[subAt{node, at.life, r.N}] = &subbed{session: c.Session, of: c.Name, f: c.F, answered: w.now}
	case api.CallUnsub:
		if s := w.subs[subAt{node, at.life, c.N}]; s != nil {
			s.ended = w.now
		}
	case api.CallClose:
		for x, s := range w.subs {
			if x.node == node && x.life == at.life && s.session == c.Session && s.ended == 0 {
				s.ended = w.now
			}
		}
	case api.CallPub:
		w.published(node, c, r)
	case api.CallPoll:
		for _, g := range r.G {
			w.take(subAt{node, at.life, g.Sub}, g)
		}
	}
}

// published notes an event.
func (w *network) published(node int, c api.Call, r api.Reply) {
	t, is := w.b[node].sessions.Ad(c.Session, c.Name)
	attrs, e := event.Sort(c.Attrs)
	if _, again := w.pubs[r.ID]; !is || e != api.OK || again || r.ID.Node != node || r.ID.Life != w.b[node].life {
		w.t.Fatalf("%d published %+v as %+v, again: %v", node, c, r, again)
	}
	w.pubs[r.ID] = published{api.Event{ID: r.ID, Type: t.Name, Attrs: attrs}, t.Chain, w.now}
}

// take holds what was given against what may be (20.4: only what was published, and the filter lets by).
func (w *network) take(at subAt, g api.Given) {
	p, is := w.pubs[g.X.ID]
	if !is || !event.Same(p.x, g.X) || !slices.ContainsFunc(p.chain, sameName(g.Of)) {
		w.t.Fatalf("%+v was given %+v, and published was %+v", at, g, p)
	}
	if !w.asked(at, g) {
		w.t.Fatalf("%+v was given %+v, and asked for something else", at, g)
	}
	if w.given[at] == nil {
		w.given[at] = map[api.ID]int{}
	}
	w.given[at][g.X.ID]++
	if w.given[at][g.X.ID] > 1 {
		w.t.Fatalf("%+v was given %+v again", at, g)
	}
}

// asked tells whether a call subscribed to what was given; of one that was not answered the number is not known.
func (w *network) asked(at subAt, g api.Given) bool {
	if s := w.subs[at]; s != nil {
		return name.Same(s.of, g.Of) && filter.Lets(s.f, g.X.Attrs)
	}
	for x, c := range w.calls {
		if x.node == at.node && x.life == at.life && c.Kind == api.CallSub && name.Same(c.Name, g.Of) && filter.Lets(c.F, g.X.Attrs) {
			return true
		}
	}
	return false
}

// call lets a client call: the ticket.
func (w *network) call(node int, c api.Call) calledAt {
	b := w.b[node]
	w.now++
	r, done := b.Call(c)
	at := calledAt{node, b.life, r.Ticket}
	w.calls[at] = c
	if done {
		w.hear(node, r)
	}
	w.behind()
	return at
}

// come lets a packet come.
func (w *network) come(h api.Hop, i int) {
	p, e := w.way.Take(h, i)
	if e == api.OK && w.b[h.To] != nil {
		w.b[h.To].Take(p)
	}
	w.behind()
}

func (w *network) tick(node int) {
	w.b[node].Tick()
	w.behind()
}

func (w *network) crash(node int) {
	v, e := view.Down(w.newest(), node)
	if e != api.OK {
		w.t.Fatal(e)
	}
	w.views = append(w.views, v)
	w.b[node] = nil
	w.behind()
}

func (w *network) rise(node int) {
	v, e := view.Up(w.newest(), node)
	if e != api.OK {
		w.t.Fatal(e)
	}
	w.views = append(w.views, v)
	w.b[node] = New(node, v)
	w.behind()
}

// learn lets a broker enter the next view, if there is one.
func (w *network) learn(node int) {
	if at := w.b[node].View().Epoch; at < len(w.views) {
		if e := w.b[node].Enter(w.views[at]); e != api.OK {
			w.t.Fatalf("%d enters %+v: %v", node, w.views[at], e)
		}
	}
	w.behind()
}

// calm lets all come to its end, as the chapter of hermes tells it: within so many rounds.
func (w *network) calm() {
	w.t.Helper()
	for a := 1; a <= api.MaxNode; a++ {
		for b := a + 1; b <= api.MaxNode; b++ {
			w.way.Apart(a, b, false)
		}
	}
	most := 60
	for _, node := range w.up() {
		if w.b[node].View().Epoch < w.newest().Epoch {
			w.b[node].Enter(w.newest())
		}
		most += 4 * w.b[node].Waits()
	}
	w.behind()
	idle := 0
	for range most {
		w.round()
		idle++
		for _, node := range w.up() {
			if !w.b[node].Idle() {
				idle = 0
			}
		}
		if idle == 2 {
			return
		}
	}
	for _, node := range w.up() {
		w.t.Errorf("%d: ready %v, waits for %d", node, w.b[node].Ready(), w.b[node].Waits())
	}
	w.t.Fatalf("not at its end in %d rounds", most)
}

func (w *network) round() {
	for _, node := range w.up() {
		w.tick(node)
	}
	for w.way.Count() > 0 {
		for _, h := range w.way.Hops() {
			w.come(h, 0)
		}
	}
}

// over calls, lets all come to its end, and is the answer.
func (w *network) over(node int, c api.Call) api.Reply {
	w.t.Helper()
	at := w.call(node, c)
	w.calm()
	r, is := w.replies[at]
	if !is {
		w.t.Fatalf("no answer to %+v at %d", c, node)
	}
	return r
}

// take all that was given to all sessions.
func (w *network) pollAll() {
	for _, node := range w.up() {
		for id := 1; id <= 40; id++ {
			if w.b[node].sessions.IsOpen(id) {
				w.call(node, api.Call{Kind: api.CallPoll, Session: id, N: 100})
			}
		}
	}
}

// check holds a network at its end against what must be then.
func (w *network) check() {
	w.t.Helper()
	w.pollAll()
	w.checkAnswers()
	w.checkEvents()
	w.checkOwners()
}

// sameName is a test of whether a name is the same as another one.
func sameName(s string) func(string) bool {
	return func(other string) bool { return name.Same(s, other) }
}

// checkAnswers: all answers came (20.4), but of brokers that crashed.
func (w *network) checkAnswers() {
	w.t.Helper()
	for at, c := range w.calls {
		if b := w.b[at.node]; b == nil || b.life != at.life {
			continue
		}
		if _, is := w.replies[at]; !is {
			w.t.Fatalf("%+v: no answer to %+v", at, c)
		}
	}
}

// checkEvents: each event that was published behind the answer to a subscription is given to it.
func (w *network) checkEvents() {
	w.t.Helper()
	for at, s := range w.subs {
		b := w.b[at.node]
		// A subscription may be ended ahead of its answer.
		if b == nil || b.life != at.life || s.ended != 0 || !slices.Contains(b.sessions.Subs(s.session), at.sub) {
			continue
		}
		missed, e := b.sessions.Over(s.session, at.sub)
		if e != api.OK {
			w.t.Fatalf("Over of %+v: %v", at, e)
		}
		for id, p := range w.pubs {
			by := w.b[id.Node]
			if by == nil || by.life != id.Life || p.at < s.answered {
				continue
			}
			wants := slices.ContainsFunc(p.chain, sameName(s.of)) && filter.Lets(s.f, p.x.Attrs)
			if count := w.given[at][id]; wants && count == 0 {
				missed--
			} else if !wants && count > 0 {
				w.t.Fatalf("%+v (%+v) was given %+v", at, s, p)
			}
		}
		if missed < 0 {
			w.t.Fatalf("%+v (%+v): %d events more are not given than did not come in", at, s, -missed)
		}
	}
}

// checkOwners: the owner of a type has just the wants of those that are up; what is kept is kept by all heirs.
func (w *network) checkOwners() {
	w.t.Helper()
	v := w.newest()
	for _, node := range w.up() {
		for _, n := range w.b[node].sessions.Types() {
			w.checkRows(n)
		}
		for _, t := range w.b[node].Types() {
			for _, heir := range view.Heirs(v, t.Name) {
				k, is := w.b[heir].store.Find(t.Name)
				if owner := w.b[node].owner(t.Name); !is || !forest.Same(k.T, t) || heir == owner && !k.Sure {
					w.t.Fatalf("%d keeps %+v, its heir %d (the owner is %d) keeps %+v", node, t, heir, owner, k)
				}
			}
		}
	}
}

func (w *network) checkRows(n string) {
	w.t.Helper()
	owner, _ := view.Owner(w.newest(), n)
	var rows [places][][]api.Pred
	for _, x := range w.b[owner].Wants(n) {
		rows[x.Node] = x.F
	}
	for node, b := range w.b {
		if b == nil && rows[node] != nil {
			w.t.Fatalf("%q: %d is not up, and wants %v", n, node, rows[node])
		}
		if b == nil {
			continue
		}
		if node != owner && b.Wants(n) != nil {
			w.t.Fatalf("%d does not own %q, and knows of %v", node, n, b.Wants(n))
		}
		if f := b.nowWanted(n); !slices.EqualFunc(f, rows[node], filter.Same) {
			w.t.Fatalf("%q: %d wants %v, the owner %d knows of %v", n, node, f, owner, rows[node])
		}
	}
}

// someNames: names of which nodes 2, 1, 3, 5, 8 and 13 are the owners, if they are up, and two more.
var someNames = []string{"tc0zpz", "tdwtps", "tc0zpe", "t7umk5", "tc0zpp", "t13nmj", "émile", "News.Sport"}

func anyCase(r *rand.Rand, s string) string {
	if r.Intn(3) == 0 {
		return strings.ToUpper(s)
	}
	return s
}

func someName(r *rand.Rand) string {
	return anyCase(r, someNames[r.Intn(3+r.Intn(2)*(len(someNames)-3))])
}

func someFilter(r *rand.Rand, t *testing.T) []api.Pred {
	texts := []string{"any", "any", "a >= 3", "a < 2", "a = 1", "a in { 1 , 4 }", "has a", "a != 2", `b = "x"`, "zz = 1"}
	return parsed(t, texts[r.Intn(len(texts))])
}

func parsed(t *testing.T, s string) []api.Pred {
	t.Helper()
	f, at, e := filter.Parse(s)
	if e != api.OK {
		t.Fatalf("%q goes wrong at %d: %v", s, at, e)
	}
	return f
}

func intField(s string) api.Field { return api.Field{Name: s, Kind: api.KindInt} }

func intAttr(s string, n int) api.Attr {
	return api.Attr{Name: s, V: api.Value{Kind: api.KindInt, N: n}}
}

// someCall is a call of a client, that often can be done.
func someCall(r *rand.Rand, t *testing.T) api.Call {
	c := api.Call{Kind: 1 + r.Intn(10), Session: 1 + r.Intn(3)}
	if r.Intn(3) == 0 {
		c.Kind = []int{api.CallPub, api.CallSub, api.CallPub}[r.Intn(3)]
	}
	switch c.Kind {
	case api.CallOpen:
		c.N = 100 - r.Intn(101)*r.Intn(2)
	case api.CallClose:
		if r.Intn(8) > 0 {
			c.Kind, c.N = api.CallPoll, 100
		}
	case api.CallReg:
		c.Name = someName(r)
		if r.Intn(2) == 0 {
			c.Parent = someName(r)
		}
		if r.Intn(3) == 0 {
			c.Own = []api.Field{intField("a")}
		}
	case api.CallAdv, api.CallWithdraw:
		c.Name = someName(r)
	case api.CallSub:
		c.Name, c.F = someName(r), someFilter(r, t)
	case api.CallUnsub, api.CallOver:
		c.N = 1 + r.Intn(6)
		if c.Kind == api.CallUnsub && r.Intn(3) > 0 {
			c.Kind, c.N = api.CallPoll, 100
		}
	case api.CallPub:
		c.Name = someName(r)
		if r.Intn(2) == 0 {
			c.Attrs = []api.Attr{intAttr("a", r.Intn(6))}
		}
	case api.CallPoll:
		c.N = r.Intn(100)
	}
	return c
}

// begun is a network in which each node has sessions, and some types are registered.
func begun(t *testing.T, r *rand.Rand, nodes ...int) *network {
	t.Helper()
	w := newNetwork(t, nodes...)
	w.calm()
	w.call(nodes[0], api.Call{Kind: api.CallOpen, N: 1})
	a := []api.Field{intField("a")}
	for _, c := range []api.Call{{Name: someNames[0], Own: a}, {Name: someNames[1], Parent: someNames[0]}, {Name: someNames[2], Parent: someNames[1]}, {Name: someNames[3]}} {
		c.Kind, c.Session = api.CallReg, 1
		if x := w.over(nodes[0], c); x.E != api.OK {
			t.Fatalf("%+v: %+v", c, x)
		}
	}
	w.call(nodes[0], api.Call{Kind: api.CallClose, Session: 1})
	for _, node := range nodes {
		w.openAt(node, r)
	}
	return w
}

// openAt opens sessions, and lets them advertise and subscribe.
func (w *network) openAt(node int, r *rand.Rand) {
	for range 2 {
		at := w.call(node, api.Call{Kind: api.CallOpen, N: 100})
		id := w.replies[at].N
		for _, n := range someNames[:3] {
			w.call(node, api.Call{Kind: api.CallAdv, Session: id, Name: n})
		}
		w.call(node, api.Call{Kind: api.CallSub, Session: id, Name: someNames[r.Intn(3)], F: someFilter(r, w.t)})
	}
}

// something happens to packets.
func (w *network) stir(r *rand.Rand, lossy bool) {
	hops := w.way.Hops()
	if len(hops) == 0 {
		return
	}
	h := hops[r.Intn(len(hops))]
	i := r.Intn(w.way.Len(h)) * r.Intn(2)
	switch x := r.Intn(10); {
	case x == 0 && lossy:
		w.way.Lose(h, i)
	case x == 1 && lossy:
		w.way.Twice(h, i)
	default:
		w.come(h, i)
	}
}

func (w *network) someNode(r *rand.Rand) int {
	l := w.up()
	return l[r.Intn(len(l))]
}

// Promise 20.4: whatever packets come, lost, doubled and late, nothing is given that is not to be; when nothing is lost any more, all answers come, and each event is given to all that wanted it.
func TestPacketsLostDoubledAndLate(t *testing.T) {
	for seed := range 40 {
		r := rand.New(rand.NewSource(int64(seed)))
		w := begun(t, r, []int{1, 2, 3, 5, 8}[:1+r.Intn(5)]...)
		for range 300 {
			switch x := r.Intn(20); {
			case x < 5:
				w.call(w.someNode(r), someCall(r, t))
			case x == 5:
				w.tick(w.someNode(r))
			case x == 6 && r.Intn(4) == 0:
				w.way.Apart(w.someNode(r), w.someNode(r), r.Intn(2) == 0)
			case x == 7 && r.Intn(10) == 0:
				w.calm()
				w.check()
			default:
				w.stir(r, true)
			}
		}
		w.calm()
		w.check()
		for n, count := range w.regs {
			if count > 1 {
				t.Fatalf("seed %d: %q was registered %d times", seed, n, count)
			}
		}
	}
}

// Promises 20.1 and 20.4: the same while brokers crash, begin anew and learn of that one by one.
func TestCrashes(t *testing.T) {
	for seed := range 60 {
		r := rand.New(rand.NewSource(int64(1000 + seed)))
		nodes := []int{1, 2, 3, 5, 8, 13}[:2+r.Intn(5)]
		w := begun(t, r, nodes...)
		for range 300 {
			switch x := r.Intn(24); {
			case x < 5:
				w.call(w.someNode(r), someCall(r, t))
			case x == 5:
				w.tick(w.someNode(r))
			case x == 6 && r.Intn(4) == 0:
				w.crashOrRise(r, nodes)
			case x == 7 || x == 8:
				w.learn(w.someNode(r))
			case x == 9 && r.Intn(12) == 0:
				w.calm()
				w.check()
			default:
				w.stir(r, r.Intn(2) == 0)
			}
		}
		w.calm()
		w.check()
	}
}

func (w *network) crashOrRise(r *rand.Rand, nodes []int) {
	node := nodes[r.Intn(len(nodes))]
	if w.b[node] == nil {
		w.rise(node)
		w.openAt(node, r)
	} else if len(w.up()) > 1 {
		w.crash(node)
	}
}

// What a broker answers and sends hangs on what it was given alone.
func TestSameArgumentsSamePackets(t *testing.T) {
	play := func(seed int64) string {
		r := rand.New(rand.NewSource(seed))
		nodes := []int{1, 2, 3, 5}
		w := begun(t, r, nodes...)
		for range 200 {
			switch x := r.Intn(12); {
			case x < 4:
				w.call(w.someNode(r), someCall(r, t))
			case x == 4 && r.Intn(4) == 0:
				w.crashOrRise(r, nodes)
			case x == 5:
				w.learn(w.someNode(r))
			default:
				w.stir(r, true)
			}
		}
		w.calm()
		return w.sent.String()
	}
	for seed := range int64(5) {
		first := play(seed)
		for range 3 {
			if play(seed) != first {
				t.Fatalf("seed %d: other packets than the first time", seed)
			}
		}
	}
}

// Promise 20.4: a name is registered once, and found behind that, also if one broker at a time crashes.
func TestTypesOutliveTheirOwners(t *testing.T) {
	for seed := range 25 {
		r := rand.New(rand.NewSource(int64(2000 + seed)))
		nodes := []int{1, 2, 3, 5, 8, 13}[:2+r.Intn(5)]
		w := begun(t, r, nodes...)
		for range 8 {
			for range 40 {
				switch x := r.Intn(12); {
				case x < 3:
					w.call(w.someNode(r), someCall(r, t))
				case x == 3:
					w.tick(w.someNode(r))
				case x == 4:
					w.learn(w.someNode(r))
				default:
					w.stir(r, true)
				}
			}
			w.crashOrRise(r, nodes)
			for range 30 {
				w.stir(r, true)
				w.learn(w.someNode(r))
			}
			w.calm()
			w.check()
			w.checkFound()
		}
	}
}

// checkFound: each name that was registered is found, and was registered once.
func (w *network) checkFound() {
	w.t.Helper()
	for n, count := range w.regs {
		node := w.up()[0]
		id := w.over(node, api.Call{Kind: api.CallOpen, N: 1}).N
		if r := w.over(node, api.Call{Kind: api.CallAdv, Session: id, Name: n}); r.E != api.OK || count != 1 {
			w.t.Fatalf("%q was registered %d times; to advertise it: %+v", n, count, r)
		}
		w.over(node, api.Call{Kind: api.CallClose, Session: id})
	}
}

// registry is what brokers are together, if each call is over before the next one begins.
type registry struct {
	types    []api.Type
	sessions [places]*session.Sessions
	events   int
}

func newRegistry(nodes []int) *registry {
	x := &registry{}
	for _, node := range nodes {
		x.sessions[node] = session.New()
	}
	return x
}

func (x *registry) call(node int, c api.Call) (r api.Reply) {
	s := x.sessions[node]
	r.Kind = c.Kind
	switch c.Kind {
	case api.CallOpen:
		r.N, r.E = s.Open(c.N)
	case api.CallClose:
		r.E = s.Close(c.Session)
	case api.CallReg:
		r.E = x.register(s, c)
	case api.CallAdv, api.CallSub:
		r.N, r.E = x.ask(s, c)
	case api.CallWithdraw:
		r.E = s.Withdraw(c.Session, c.Name)
	case api.CallUnsub:
		_, r.E = s.Unsubscribe(c.Session, c.N)
	case api.CallPub:
		r.E = x.publish(s, c)
	case api.CallPoll:
		r.G, r.E = s.Poll(c.Session, c.N)
	case api.CallOver:
		r.N, r.E = s.Over(c.Session, c.N)
	default:
		r.E = api.ErrArg
	}
	return r
}

func (x *registry) register(s *session.Sessions, c api.Call) api.Errno {
	if !s.IsOpen(c.Session) {
		return api.ErrNone
	}
	if name.Check(c.Name) != api.OK {
		return name.Check(c.Name)
	}
	if c.Parent != "" && name.Check(c.Parent) != api.OK {
		return name.Check(c.Parent)
	}
	t, e := forest.Make(x.types, c.Name, c.Parent, c.Own, api.ID{Node: 1, Life: 1, Seq: 1})
	if e != api.OK {
		return e
	}
	x.types, e = forest.Add(x.types, t)
	return e
}

func (x *registry) ask(s *session.Sessions, c api.Call) (int, api.Errno) {
	if !s.IsOpen(c.Session) {
		return 0, api.ErrNone
	}
	if e := name.Check(c.Name); e != api.OK {
		return 0, e
	}
	if c.Kind == api.CallSub && !filter.Check(c.F) {
		return 0, api.ErrArg
	}
	t, is := forest.Find(x.types, c.Name)
	if !is {
		return 0, api.ErrNone
	}
	if c.Kind == api.CallAdv {
		return 0, s.Advertise(c.Session, t)
	}
	return s.Subscribe(c.Session, t, c.F)
}

func (x *registry) publish(s *session.Sessions, c api.Call) api.Errno {
	t, is := s.Ad(c.Session, c.Name)
	if !is {
		return api.ErrNone
	}
	attrs, e := event.Sort(c.Attrs)
	if e != api.OK {
		return e
	}
	x.events++
	y := api.Event{ID: api.ID{Node: 1, Life: 1, Seq: x.events}, Type: t.Name, Attrs: attrs}
	if e := forest.Fits(t, y); e != api.OK {
		return e
	}
	for _, of := range t.Chain {
		for _, clients := range x.sessions {
			clients.Deliver(of, y)
		}
	}
	return api.OK
}

// sameAnswers tells whether both answer the same, but for events' identities.
func sameAnswers(a, b api.Reply) bool {
	return a.Kind == b.Kind && a.E == b.E && a.N == b.N && slices.EqualFunc(a.G, b.G, func(g, h api.Given) bool {
		return g.Sub == h.Sub && g.Of == h.Of && event.Alike(g.X, h.X)
	})
}

// wrongCall is a call with something that may not be.
func wrongCall(r *rand.Rand, t *testing.T) api.Call {
	c := someCall(r, t)
	switch r.Intn(8) {
	case 0:
		c.Kind = r.Intn(40) - 20
	case 1:
		c.Session = r.Intn(40) - 20
	case 2:
		c.Name = []string{"", "a..b", "none", "1"}[r.Intn(4)]
	case 3:
		c.Parent = []string{"a..b", "none", "1", "x.", c.Name}[r.Intn(5)]
	case 4:
		c.N = r.Intn(300) - 100
	case 5:
		c.F = []api.Pred{{Name: "a", Op: r.Intn(12), L: []api.Value{{Kind: r.Intn(6)}}}}
	case 6:
		c.Attrs = []api.Attr{intAttr("b", 1), intAttr("a", 1), {Name: "a", V: api.Value{Kind: r.Intn(6)}}}[r.Intn(3):]
	case 7:
		// Its answer need not be that of the registry, which has another order of errors for schemas: these are looked at elsewhere.
	}
	return c
}

// Promise 20.4: a broker alone answers at once, as one registry and its sessions would.
func TestAloneAsOneRegistry(t *testing.T) {
	for seed := range 30 {
		r := rand.New(rand.NewSource(int64(3000 + seed)))
		b := New(4, alone(t, 4))
		x := newRegistry([]int{4})
		for i := range 400 {
			c := wrongCall(r, t)
			want := x.call(4, c)
			got, done := b.Call(c)
			ticket := got.Ticket
			l := b.Replies()
			if !done && len(l) == 1 {
				got = l[0]
			}
			if later := c.Kind == api.CallReg || c.Kind == api.CallAdv || c.Kind == api.CallSub; done && len(l) > 0 || !done && (len(l) != 1 || !later) {
				t.Fatalf("seed %d, %+v: done %v, and then %+v", seed, c, done, l)
			}
			if got.Ticket != i+1 || ticket != i+1 || !sameAnswers(got, want) || !b.Idle() || b.Out() != nil {
				t.Fatalf("seed %d, call %d, %+v: %+v; a registry: %+v", seed, i+1, c, got, want)
			}
		}
		if !slices.EqualFunc(b.Types(), x.types, func(a, b api.Type) bool {
			a.By = b.By
			return forest.Same(a, b)
		}) {
			t.Fatalf("seed %d: %+v; a registry: %+v", seed, b.Types(), x.types)
		}
	}
}

func alone(t *testing.T, node int) api.View { return firstView(t, node) }

func firstView(t *testing.T, nodes ...int) api.View {
	t.Helper()
	v, e := view.First(nodes)
	if e != api.OK {
		t.Fatal(e)
	}
	return v
}

// Promise 20.4: brokers answer as one registry and its sessions would, if each call is over before the next one begins.
func TestTogetherAsOneRegistry(t *testing.T) {
	for seed := range 12 {
		r := rand.New(rand.NewSource(int64(4000 + seed)))
		nodes := []int{2, 3, 4, 7, 11}[:2+r.Intn(4)]
		w := newNetwork(t, nodes...)
		x := newRegistry(nodes)
		for range 150 {
			node, c := w.someNode(r), wrongCall(r, t)
			want := x.call(node, c)
			if got := w.over(node, c); !sameAnswers(got, want) {
				t.Fatalf("seed %d, %+v at %d: %+v; a registry: %+v", seed, c, node, got, want)
			}
		}
		w.check()
	}
}

// The bounds that the chapter of hermes gives: all comes to its end also with many brokers and types, when all is to be said anew.
func TestManyBrokersComeToTheirEnd(t *testing.T) {
	var nodes []int
	for node := 1; node <= api.MaxNode; node++ {
		nodes = append(nodes, node)
	}
	w := newNetwork(t, nodes...)
	w.calm()
	for _, node := range nodes {
		w.call(node, api.Call{Kind: api.CallOpen, N: 100})
	}
	// All names stand with few owners, as their keys do.
	for i := range 150 {
		w.call(nodes[i%len(nodes)], api.Call{Kind: api.CallReg, Session: 1, Name: "t" + strconv.Itoa(i), Own: []api.Field{intField("a")}})
	}
	w.calm()
	for i := range 150 {
		w.call(nodes[i%len(nodes)], api.Call{Kind: api.CallSub, Session: 1, Name: "t" + strconv.Itoa(149-i)})
		w.call(nodes[i%len(nodes)], api.Call{Kind: api.CallAdv, Session: 1, Name: "t" + strconv.Itoa(i)})
	}
	w.calm()
	for i := range 150 {
		w.call(nodes[i%len(nodes)], api.Call{Kind: api.CallPub, Session: 1, Name: "t" + strconv.Itoa(i), Attrs: []api.Attr{intAttr("a", i)}})
	}
	w.crash(3)
	w.calm()
	w.check()
	w.rise(3)
	w.crash(7)
	w.calm()
	w.check()
}
