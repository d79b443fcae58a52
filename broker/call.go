package broker

import (
	"maps"
	"slices"

	"caduceus/api"
	"caduceus/event"
	"caduceus/filter"
	"caduceus/forest"
	"caduceus/name"
	"caduceus/schema"
	"caduceus/wire"
)

// ask is a call whose answer is outstanding.
type ask struct {
	ticket int
	id     api.ID
	c      api.Call
	sub    int    // the subscription's number, if there is one, of which its owner is to hear
	of     string // its type, folded
	ver    int    // the version of which the owner is to hear
}

// pub is an event that is not given to all.
type pub struct {
	x    api.Event
	left []string // the types whose owners have not said that it is given, in the order of its Chain
}

// told is what the owner of a type was told of what the clients want.
type told struct {
	f     [][]api.Pred
	ver   int
	heard int // the version that it said to know
}

// Call does what a client calls.
func (b *Broker) Call(c api.Call) (r api.Reply, done bool) {
	if b == nil {
		return api.Reply{E: api.ErrArg}, false
	}
	b.tickets++
	r = api.Reply{Ticket: b.tickets, Kind: c.Kind}
	switch c.Kind {
	case api.CallReg, api.CallAdv, api.CallSub:
		r.E = b.mayAsk(c)
		done = r.E != api.OK || b.start(&ask{ticket: r.Ticket, id: b.newID(), c: copyOfCall(c)}, &r)
	default:
		b.answer(c, &r)
		done = true
	}
	b.settle()
	return r, done
}

// answer answers a call whose answer is done at once.
func (b *Broker) answer(c api.Call, r *api.Reply) {
	switch c.Kind {
	case api.CallOpen:
		r.N, r.E = b.sessions.Open(c.N)
	case api.CallClose:
		if r.E = b.sessions.Close(c.Session); r.E == api.OK {
			b.tellChanges()
		}
	case api.CallWithdraw:
		r.E = b.sessions.Withdraw(c.Session, c.Name)
	case api.CallUnsub:
		var of string
		if of, r.E = b.sessions.Unsubscribe(c.Session, c.N); r.E == api.OK {
			b.tellChange(name.Fold(of))
		}
	case api.CallPub:
		r.ID, r.E = b.makeEvent(c)
	case api.CallPoll:
		r.G, r.E = b.sessions.Poll(c.Session, c.N)
	case api.CallOver:
		r.N, r.E = b.sessions.Over(c.Session, c.N)
	default:
		r.E = api.ErrArg
	}
}

// mayAsk is what is wrong with a call that an owner is to be asked for.
func (b *Broker) mayAsk(c api.Call) api.Errno {
	if !b.sessions.IsOpen(c.Session) {
		return api.ErrNone
	}
	if c.Kind == api.CallReg && !schema.Check(c.Own) {
		return api.ErrArg
	}
	if e := name.Check(c.Name); e != api.OK {
		return e
	}
	if c.Kind == api.CallReg && c.Parent != "" {
		if e := name.Check(c.Parent); e != api.OK {
			return e
		}
	}
	if c.Kind == api.CallSub && !filter.Check(c.F) {
		return api.ErrArg
	}
	if len(b.asks) >= MaxAsks {
		return api.ErrFull
	}
	return api.OK
}

// copyOfCall is what is asked of an owner, in memory of its own.
func copyOfCall(c api.Call) api.Call {
	c.Own, c.F, c.Attrs = slices.Clone(c.Own), slices.Clone(c.F), nil
	for i, p := range c.F {
		c.F[i].L = slices.Clone(p.L)
	}
	return c
}

// start lets a call begin that an owner is to be asked for: whether it is answered at once.
func (b *Broker) start(a *ask, r *api.Reply) (done bool) {
	if t, is := b.seen[name.Fold(a.c.Name)]; is && a.c.Kind != api.CallReg {
		r.N, r.E, done = b.goOn(a, t)
	} else {
		b.askFor(a)
	}
	if !done {
		b.asks = append(b.asks, a)
	}
	return done
}

// askFor asks the owner for a type, or for its registration.
func (b *Broker) askFor(a *ask) {
	m := api.Msg{Kind: api.MsgAsk, Req: a.id, S: a.c.Name}
	if a.c.Kind == api.CallReg {
		m.Kind, m.P, m.Own = api.MsgReg, a.c.Parent, a.c.Own
	}
	b.send(b.owner(m.S), m)
}

// finish goes through what is outstanding: what is answered goes.
func (b *Broker) finish(answered func(a *ask) bool) {
	b.asks = slices.DeleteFunc(b.asks, answered)
}

// reply answers a call.
func (b *Broker) reply(a *ask, n int, e api.Errno) bool {
	b.replies = append(b.replies, api.Reply{Ticket: a.ticket, Kind: a.c.Kind, E: e, N: n})
	return true
}

// see notes a type that is registered: it need not be asked for again.
func (b *Broker) see(l []api.Type) {
	for _, t := range l {
		b.seen[name.Fold(t.Name)] = t
	}
}

// registered hears what became of a registration.
func (b *Broker) registered(m api.Msg) {
	b.see(m.T)
	b.finish(func(a *ask) bool {
		return a.id == m.Req && a.c.Kind == api.CallReg && b.reply(a, 0, m.E)
	})
}

// typeTold hears of a type, that a client or this broker as an owner asked for.
func (b *Broker) typeTold(m api.Msg) {
	b.see(m.T)
	b.finish(func(a *ask) bool {
		if a.id != m.Req || a.c.Kind == api.CallReg || a.sub != 0 {
			return false
		}
		if m.E != api.OK {
			return b.reply(a, 0, m.E)
		}
		n, e, done := b.goOn(a, m.T[0])
		return done && b.reply(a, n, e)
	})
	b.parentTold(m)
}

// goOn does what a client asked for, now that its type is known: what it is answered, if it is yet.
func (b *Broker) goOn(a *ask, t api.Type) (n int, e api.Errno, done bool) {
	if a.c.Kind == api.CallAdv {
		return 0, b.sessions.Advertise(a.c.Session, t), true
	}
	sub, e := b.sessions.Subscribe(a.c.Session, t, a.c.F)
	if e != api.OK {
		return 0, e, true
	}
	a.sub, a.of = sub, name.Fold(t.Name)
	b.tellChange(a.of)
	w := b.wants[a.of]
	a.ver = w.ver
	if w.heard < w.ver {
		return 0, api.OK, false
	}
	return sub, api.OK, true
}

// heard hears that an owner knows what the clients want.
func (b *Broker) heard(m api.Msg) {
	of := name.Fold(m.S)
	w, is := b.wants[of]
	if !is {
		return
	}
	w.heard = max(w.heard, m.Ver)
	b.wants[of] = w
	b.finish(func(a *ask) bool {
		return a.of == of && a.ver <= w.heard && b.reply(a, a.sub, api.OK)
	})
}

// nowWanted is what the clients want of a type, as a message can say it.
func (b *Broker) nowWanted(of string) [][]api.Pred {
	f := b.sessions.Wanted(of)
	if !wire.Check(api.Msg{Kind: api.MsgSubs, Epoch: b.view.Epoch, S: of, Ver: b.versions + 1, F: f}) {
		return [][]api.Pred{nil}
	}
	return f
}

// tell tells the owner of a type what the clients want.
func (b *Broker) tell(of string, f [][]api.Pred) {
	b.versions++
	b.wants[of] = told{f: f, ver: b.versions}
	b.send(b.owner(of), api.Msg{Kind: api.MsgSubs, S: of, Ver: b.versions, F: f})
}

// tellChange tells the owner of a type what the clients want, if that is other than what it was told.
func (b *Broker) tellChange(of string) {
	if f := b.nowWanted(of); !slices.EqualFunc(f, b.wants[of].f, filter.Same) {
		b.tell(of, f)
	}
}

// tellChanges tells all owners what the clients want otherwise than they were told.
func (b *Broker) tellChanges() {
	for _, of := range slices.SortedFunc(maps.Keys(b.wants), name.Compare) {
		b.tellChange(of)
	}
}

// makeEvent publishes an event: its identity.
func (b *Broker) makeEvent(c api.Call) (api.ID, api.Errno) {
	t, is := b.sessions.Ad(c.Session, c.Name)
	if !is {
		return api.ID{}, api.ErrNone
	}
	attrs, e := event.Sort(c.Attrs)
	if e != api.OK {
		return api.ID{}, e
	}
	x := api.Event{Type: t.Name, Attrs: attrs}
	if e := forest.Fits(t, x); e != api.OK {
		return api.ID{}, e
	}
	if len(b.pubs) >= MaxPubs {
		return api.ID{}, api.ErrFull
	}
	x.ID = b.newID()
	p := &pub{x, t.Chain}
	b.pubs = append(b.pubs, p)
	b.publish(p)
	return x.ID, api.OK
}

// publish asks the owner of the first type that is left to give an event. The next one is asked when it is given to all: so each client is given it in the order of its Chain, as if there were one broker, and of two for which there is room for one the same one comes in.
func (b *Broker) publish(p *pub) {
	s := p.left[0]
	b.send(b.owner(s), api.Msg{Kind: api.MsgPub, S: s, X: p.x})
}

// givenToAll hears that an event is given to all that want it by a type.
func (b *Broker) givenToAll(m api.Msg) {
	b.pubs = slices.DeleteFunc(b.pubs, func(p *pub) bool {
		if p.x.ID != m.Req || !name.Same(p.left[0], m.S) {
			return false
		}
		p.left = p.left[1:]
		if len(p.left) > 0 {
			b.publish(p)
		}
		return len(p.left) == 0
	})
}

// deliver gives an event to the clients that want it; the owner is told also of one that came already.
func (b *Broker) deliver(x letter) {
	b.sessions.Deliver(x.m.S, x.m.X)
	b.send(x.node, api.Msg{Kind: api.MsgGot, Req: x.m.X.ID, S: x.m.S})
}
