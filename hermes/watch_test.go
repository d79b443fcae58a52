package hermes

import (
	"slices"
	"testing"

	"caduceus/api"
	"caduceus/broker"
	"caduceus/event"
	"caduceus/filter"
	"caduceus/forest"
	"caduceus/name"
	"caduceus/session"
	"caduceus/view"
)

// watch is a network, and all that its clients were told and given: what its facts and its sessions' queues say, looked at behind each deed.
type watch struct {
	t       *testing.T
	h       *Hermes
	noted   int // how many facts were looked at
	calls   map[ticketAt]api.Call
	answers map[ticketAt]api.Reply
	last    map[lifeAt]int // the last ticket
	open    map[lifeAt]int // how many answers are outstanding
	subs    map[subAt]*subbed
	ads     map[adAt]int // how many more times a session advertised a type than it withdrew it
	pubs    map[api.ID]published
	queues  map[sessionAt][]api.Given
	given   map[subAt]map[api.ID]api.Given
	regs    map[string]int // how often each name was registered
}

type lifeAt struct{ node, life int }

type ticketAt struct{ node, life, ticket int }

type sessionAt struct{ node, life, session int }

type subAt struct{ node, life, sub int }

type adAt struct {
	sessionAt
	of string
}

// subbed is a subscription whose answer came, as the fact of that number.
type subbed struct {
	session int
	of      string
	f       []api.Pred
	at      int
	ended   bool
}

// published is an event, the types that it is of, and which fact published it.
type published struct {
	x     api.Event
	chain []string
	at    int
}

func newWatch(t *testing.T, nodes ...int) *watch {
	t.Helper()
	w := &watch{
		t:       t,
		h:       New(nodes),
		calls:   map[ticketAt]api.Call{},
		answers: map[ticketAt]api.Reply{},
		last:    map[lifeAt]int{},
		open:    map[lifeAt]int{},
		subs:    map[subAt]*subbed{},
		ads:     map[adAt]int{},
		pubs:    map[api.ID]published{},
		queues:  map[sessionAt][]api.Given{},
		given:   map[subAt]map[api.ID]api.Given{},
		regs:    map[string]int{},
	}
	if w.h == nil {
		t.Fatalf("no network of %v", nodes)
	}
	return w
}

// up are the nodes that are up.
func (w *watch) up() []int { return view.Live(w.h.View()) }

func (w *watch) life(node int) int { return view.Life(w.h.View(), node) }

// isThere tells whether a node has not crashed since a life.
func (w *watch) isThere(node, life int) bool {
	return w.h.Broker(node) != nil && w.life(node) == life
}

// do does a deed, and looks at what became of it.
func (w *watch) do(d api.Deed) (api.Reply, api.Errno) {
	w.t.Helper()
	r, e := w.h.Do(d)
	w.look()
	return r, e
}

// must does a deed that can be done.
func (w *watch) must(d api.Deed) api.Reply {
	w.t.Helper()
	r, e := w.do(d)
	if e != api.OK {
		w.t.Fatalf("%+v: %v", d, e)
	}
	return r
}

func (w *watch) call(node int, c api.Call) ticketAt {
	w.t.Helper()
	r := w.must(api.Deed{Kind: api.DeedCall, Node: node, C: c})
	return ticketAt{node, w.life(node), r.Ticket}
}

// calm lets all come to its end (22.6).
func (w *watch) calm() {
	w.t.Helper()
	w.must(api.Deed{Kind: api.DeedCalm})
	if !w.h.Idle() || w.h.Way() != 0 || len(w.h.Hops()) != 0 {
		w.t.Fatalf("behind a calm: idle %v, %d packets", w.h.Idle(), w.h.Way())
	}
}

// over calls, lets all come to its end, and is the answer.
func (w *watch) over(node int, c api.Call) api.Reply {
	w.t.Helper()
	at := w.call(node, c)
	w.calm()
	r, is := w.answers[at]
	if !is {
		w.t.Fatalf("no answer to %+v at %d", c, node)
	}
	return r
}

// look notes what is new, and holds it against what may be.
func (w *watch) look() {
	w.t.Helper()
	facts := w.h.Facts()
	for ; w.noted < len(facts); w.noted++ {
		x := facts[w.noted]
		if !w.isThere(x.Node, x.Life) {
			w.t.Fatalf("a fact of what is not up: %+v", x)
		}
		if x.IsR {
			w.hear(x)
		} else {
			w.ask(x)
		}
	}
	for _, node := range w.up() {
		w.lookAt(node)
	}
	if w.h.Way() > api.MaxWay {
		w.t.Fatalf("%d packets are under way", w.h.Way())
	}
}

// isLater tells of which calls the answer may come later.
func isLater(kind int) bool {
	return kind == api.CallReg || kind == api.CallAdv || kind == api.CallSub
}

// ask notes a call.
func (w *watch) ask(x api.Fact) {
	w.t.Helper()
	of := lifeAt{x.Node, x.Life}
	w.last[of]++
	if x.R.Ticket != w.last[of] || x.R.Kind != x.C.Kind || !sameReply(x.R, api.Reply{Ticket: x.R.Ticket, Kind: x.R.Kind}) {
		w.t.Fatalf("fact %d: the call %d is %+v", w.noted, w.last[of], x)
	}
	w.calls[ticketAt{x.Node, x.Life, x.R.Ticket}] = x.C
	w.open[of]++
}

// hear notes an answer.
func (w *watch) hear(x api.Fact) {
	w.t.Helper()
	at := ticketAt{x.Node, x.Life, x.R.Ticket}
	c, called := w.calls[at]
	if _, again := w.answers[at]; again || !called || c.Kind != x.R.Kind || !sameCall(x.C, api.Call{}) {
		w.t.Fatalf("fact %d: the answer %+v to %+v, again: %v", w.noted, x, c, again)
	}
	w.answers[at] = x.R
	w.open[lifeAt{x.Node, x.Life}]--
	if x.R.E != api.OK {
		if !sameReply(x.R, api.Reply{Ticket: x.R.Ticket, Kind: x.R.Kind, E: x.R.E}) {
			w.t.Fatalf("beside an error: %+v", x.R)
		}
		return
	}
	w.hearOK(sessionAt{x.Node, x.Life, c.Session}, c, x.R)
}

// hearOK notes what was done.
func (w *watch) hearOK(at sessionAt, c api.Call, r api.Reply) {
	w.t.Helper()
	sub := subAt{at.node, at.life, c.N}
	switch r.Kind {
	case api.CallReg:
		w.regs[name.Fold(c.Name)]++
	case api.CallAdv:
		w.ads[adAt{at, name.Fold(c.Name)}]++
	case api.CallWithdraw:
		w.ads[adAt{at, name.Fold(c.Name)}]--
	case api.CallSub:
		w.subscribed(subAt{at.node, at.life, r.N}, c)
	case api.CallUnsub:
		if s := w.subs[sub]; s != nil {
			s.ended = true
		}
	case api.CallClose:
		delete(w.queues, at)
		for x, s := range w.subs {
			s.ended = s.ended || x.node == at.node && x.life == at.life && s.session == at.session
		}
	case api.CallPub:
		w.published(at, c, r)
	case api.CallPoll:
		w.polled(at, r.G)
	}
}

// subscribed notes a subscription, and looks at what was given to it already.
func (w *watch) subscribed(at subAt, c api.Call) {
	w.t.Helper()
	if w.subs[at] != nil {
		w.t.Fatalf("%+v subscribed again", at)
	}
	w.subs[at] = &subbed{session: c.Session, of: c.Name, f: c.F, at: w.noted}
	for _, g := range w.given[at] {
		if !name.Same(c.Name, g.Of) || !filter.Lets(c.F, g.X.Attrs) {
			w.t.Fatalf("%+v was given %+v, and asked %+v", at, g, c)
		}
	}
}

// published notes an event: its session advertised the type (22.2).
func (w *watch) published(at sessionAt, c api.Call, r api.Reply) {
	w.t.Helper()
	t, is := w.h.Broker(at.node).Sessions().Ad(c.Session, c.Name)
	attrs, e := event.Sort(c.Attrs)
	if _, again := w.pubs[r.ID]; again || !is || e != api.OK || r.ID.Node != at.node || r.ID.Life != at.life || w.ads[adAt{at, name.Fold(c.Name)}] != 1 {
		w.t.Fatalf("%+v published %+v as %+v, again: %v", at, c, r, again)
	}
	w.pubs[r.ID] = published{api.Event{ID: r.ID, Type: t.Name, Attrs: attrs}, t.Chain, w.noted}
}

// polled lets a session have taken what stood first in its queue.
func (w *watch) polled(at sessionAt, l []api.Given) {
	w.t.Helper()
	q := w.queues[at]
	if len(l) > len(q) || !slices.EqualFunc(l, q[:len(l)], sameGiven) {
		w.t.Fatalf("%+v took %+v of %+v", at, l, q)
	}
	w.queues[at] = q[len(l):]
}

// lookAt looks at a node's sessions: what is new in their queues, and how much there is.
func (w *watch) lookAt(node int) {
	w.t.Helper()
	life, s := w.life(node), w.h.Broker(node).Sessions()
	opened := 0
	for id := 1; id <= w.last[lifeAt{node, life}]; id++ {
		if !s.IsOpen(id) {
			continue
		}
		opened++
		at := sessionAt{node, life, id}
		old, l := w.queues[at], s.Peek(id)
		if len(l) < len(old) || !slices.EqualFunc(old, l[:len(old)], sameGiven) {
			w.t.Fatalf("%+v had %+v, and has %+v", at, old, l)
		}
		for _, g := range l[len(old):] {
			w.give(at, g, slices.Contains(s.Subs(id), g.Sub))
		}
		w.queues[at] = l
	}
	if asks := w.open[lifeAt{node, life}]; opened > session.MaxSessions || asks > broker.MaxAsks {
		w.t.Fatalf("%d has %d sessions, and %d answers are outstanding", node, opened, asks)
	}
}

// give holds what was given against what may be (22.2).
func (w *watch) give(at sessionAt, g api.Given, subs bool) {
	w.t.Helper()
	sub := subAt{at.node, at.life, g.Sub}
	p, is := w.pubs[g.X.ID]
	if !is || !event.Same(p.x, g.X) || !slices.ContainsFunc(p.chain, sameName(g.Of)) {
		w.t.Fatalf("%+v was given %+v, and published was %+v", at, g, p)
	}
	if !subs || !w.asked(at, g) {
		w.t.Fatalf("%+v was given %+v, which it asks for: %v", at, g, subs)
	}
	if w.given[sub] == nil {
		w.given[sub] = map[api.ID]api.Given{}
	}
	if _, again := w.given[sub][g.X.ID]; again {
		w.t.Fatalf("%+v was given %+v again", at, g)
	}
	w.given[sub][g.X.ID] = g
}

// asked tells whether a call ahead subscribed to what was given; of one that is not answered the number is not known.
func (w *watch) asked(at sessionAt, g api.Given) bool {
	if s := w.subs[subAt{at.node, at.life, g.Sub}]; s != nil {
		return !s.ended && s.session == at.session && name.Same(s.of, g.Of) && filter.Lets(s.f, g.X.Attrs)
	}
	for x, c := range w.calls {
		if x.node == at.node && x.life == at.life && c.Kind == api.CallSub && c.Session == at.session && name.Same(c.Name, g.Of) && filter.Lets(c.F, g.X.Attrs) {
			return true
		}
	}
	return false
}

// check holds a network at its end against what must be then.
func (w *watch) check() {
	w.t.Helper()
	w.checkAnswers()
	w.checkEvents()
	w.checkTables()
	w.checkTypes()
}

// checkAnswers: all answers came (22.6).
func (w *watch) checkAnswers() {
	w.t.Helper()
	for at, c := range w.calls {
		if _, is := w.answers[at]; !is && w.isThere(at.node, at.life) {
			w.t.Fatalf("%+v: no answer to %+v", at, c)
		}
	}
}

// checkEvents: each event that was published behind the answer to a subscription is given to it, just if it asks for it (22.3).
func (w *watch) checkEvents() {
	w.t.Helper()
	for at, s := range w.subs {
		if s.ended || !w.isThere(at.node, at.life) {
			continue
		}
		clients := w.h.Broker(at.node).Sessions()
		if !slices.Contains(clients.Subs(s.session), at.sub) {
			continue // It was ended ahead of its answer.
		}
		missed, e := clients.Over(s.session, at.sub)
		if e != api.OK {
			w.t.Fatalf("Over of %+v: %v", at, e)
		}
		for id, p := range w.pubs {
			if p.at < s.at || !w.isThere(id.Node, id.Life) {
				continue
			}
			wants := slices.ContainsFunc(p.chain, sameName(s.of)) && filter.Lets(s.f, p.x.Attrs)
			if _, given := w.given[at][id]; wants && !given {
				missed--
			} else if !wants && given {
				w.t.Fatalf("%+v (%+v) was given %+v", at, s, p)
			}
		}
		if missed < 0 {
			w.t.Fatalf("%+v (%+v): %d more events are not given than had no room", at, s, -missed)
		}
	}
}

// checkTables: each type that somebody wants is owned by one broker, which knows just of the wants of those that are up (22.5).
func (w *watch) checkTables() {
	w.t.Helper()
	for _, node := range w.up() {
		for _, n := range w.h.Broker(node).Sessions().Types() {
			w.checkTable(n)
		}
	}
}

func (w *watch) checkTable(n string) {
	w.t.Helper()
	owner, _ := view.Owner(w.h.View(), n)
	var wants [places][][]api.Pred
	for _, x := range w.h.Broker(owner).Wants(n) {
		wants[x.Node] = x.F
	}
	for node := range wants {
		b := w.h.Broker(node)
		if node != owner && b.Wants(n) != nil {
			w.t.Fatalf("%q: %d is not its owner, and knows of %+v", n, node, b.Wants(n))
		}
		if f := b.Sessions().Wanted(n); !slices.EqualFunc(f, wants[node], filter.Same) {
			w.t.Fatalf("%q: %d wants %+v, its owner %d knows of %+v", n, node, f, owner, wants[node])
		}
	}
}

// checkTypes: what is kept is kept by its heirs, and is the same with all (22.5).
func (w *watch) checkTypes() {
	w.t.Helper()
	kept := w.kept()
	for n, t := range kept {
		for _, heir := range view.Heirs(w.h.View(), n) {
			if x, is := forest.Find(w.h.Broker(heir).Types(), n); !is || !forest.Same(t, x) {
				w.t.Fatalf("%+v is kept, and by its heir %d: %+v", t, heir, x)
			}
		}
	}
	for n, count := range w.regs {
		if count > 1 && w.noCrash() {
			w.t.Fatalf("%q was registered %d times", n, count)
		}
	}
}

// noCrash tells whether none has crashed ever.
func (w *watch) noCrash() bool { return w.h.View().Epoch == 1 }

// kept are the types that brokers keep, by their names, folded.
func (w *watch) kept() map[string]api.Type {
	w.t.Helper()
	out := map[string]api.Type{}
	for _, node := range w.up() {
		for _, t := range w.h.Broker(node).Types() {
			n := name.Fold(t.Name)
			if old, is := out[n]; is && !forest.Same(old, t) {
				w.t.Fatalf("two types of one name are kept: %+v and %+v", old, t)
			}
			out[n] = t
		}
	}
	return out
}

// checkFound: each name that was registered was so once, and is found (22.4).
func (w *watch) checkFound() {
	w.t.Helper()
	kept := w.kept()
	for n, count := range w.regs {
		if _, is := kept[n]; !is || count != 1 {
			w.t.Fatalf("%q was registered %d times, and is kept: %v", n, count, is)
		}
	}
	node := w.up()[len(w.pubs)%len(w.up())]
	r := w.over(node, api.Call{Kind: api.CallOpen, N: 1})
	if r.E == api.ErrFull {
		return
	}
	for n := range w.regs {
		if r := w.over(node, api.Call{Kind: api.CallSub, Session: r.N, Name: n}); r.E != api.OK {
			w.t.Fatalf("%q is registered; to subscribe to it: %+v", n, r)
		}
		if r := w.over(node, api.Call{Kind: api.CallReg, Session: r.N, Name: n}); r.E != api.ErrThere {
			w.t.Fatalf("%q is registered; to register it: %+v", n, r)
		}
	}
	w.over(node, api.Call{Kind: api.CallClose, Session: r.N})
}

// sameName is a test of whether a name is the same as another one.
func sameName(s string) func(string) bool {
	return func(other string) bool { return name.Same(s, other) }
}

func sameGiven(a, b api.Given) bool {
	return a.Sub == b.Sub && a.Of == b.Of && event.Same(a.X, b.X)
}

func sameReply(a, b api.Reply) bool {
	return a.Ticket == b.Ticket && a.Kind == b.Kind && a.E == b.E && a.N == b.N && a.ID == b.ID && slices.EqualFunc(a.G, b.G, sameGiven)
}

func sameCall(a, b api.Call) bool {
	return a.Kind == b.Kind && a.Session == b.Session && a.Name == b.Name && a.Parent == b.Parent && a.N == b.N &&
		slices.Equal(a.Own, b.Own) && filter.Same(a.F, b.F) && slices.Equal(a.Attrs, b.Attrs)
}

func sameFact(a, b api.Fact) bool {
	return a.Node == b.Node && a.Life == b.Life && a.IsR == b.IsR && sameCall(a.C, b.C) && sameReply(a.R, b.R)
}

func sameView(a, b api.View) bool {
	return a.Epoch == b.Epoch && slices.Equal(a.L, b.L)
}
