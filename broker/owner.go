package broker

import (
	"slices"

	"caduceus/api"
	"caduceus/forest"
	"caduceus/name"
)

// request is what another broker, or this one, asks of an owner.
type request struct {
	from   int
	m      api.Msg
	asked  api.ID   // for the parent, if another owner was asked for it
	answer *api.Msg // what that one told
}

// give is an event under way to those that want it by a type.
type give struct {
	id   api.ID
	of   string
	from int
	wait [places]bool
}

// request does what an owner is asked for, or lets it wait.
func (b *Broker) request(r *request) {
	if !b.begun || !b.served(r) {
		b.held = append(b.held, r)
	}
}

// serve goes through the requests that wait: those that are answered go.
func (b *Broker) serve() {
	if b.begun {
		b.held = slices.DeleteFunc(b.held, b.served)
	}
}

// served does what an owner is asked for, if it can be done yet: whether it could.
func (b *Broker) served(r *request) bool {
	switch r.m.Kind {
	case api.MsgReg:
		return b.register(r)
	case api.MsgAsk:
		t, e, known := b.find(r.m.S)
		if known {
			b.sendType(r, api.MsgTell, t, e)
		}
		return known
	default:
		b.give(r)
		return true
	}
}

// find is a type that is registered, or ErrNone; one that is kept and not sure is not known yet.
func (b *Broker) find(s string) (t api.Type, e api.Errno, known bool) {
	k, is := b.store.Find(s)
	if !is {
		return api.Type{}, api.ErrNone, true
	}
	return k.T, api.OK, k.Sure
}

// sendType answers a request by a type, or an error.
func (b *Broker) sendType(r *request, kind int, t api.Type, e api.Errno) {
	m := api.Msg{Kind: kind, Req: r.m.Req, E: e}
	if e == api.OK {
		m.T = []api.Type{t}
	}
	b.send(r.from, m)
}

// register registers a type, as far as it can be done yet: whether that is answered.
func (b *Broker) register(r *request) bool {
	t, e, known := b.find(r.m.S)
	if known && e != api.OK {
		t, e, known = b.makeType(r)
		if known && e == api.OK {
			t, e, known = b.keepNew(t)
		}
	}
	if !known {
		return false
	}
	if e == api.OK && t.By != r.m.Req {
		e = api.ErrThere
	}
	b.sendType(r, api.MsgRegOK, t, e)
	return true
}

// makeType is the type that a request asks for, if its parent is known.
func (b *Broker) makeType(r *request) (t api.Type, e api.Errno, known bool) {
	if r.m.P == "" {
		t, e = forest.Root(r.m.S, r.m.Own, r.m.Req)
		return t, e, true
	}
	parent, e, known := b.parent(r)
	if !known || e != api.OK {
		return api.Type{}, e, known
	}
	t, e = forest.Below(parent, r.m.S, r.m.Own, r.m.Req)
	return t, e, true
}

// parent is the parent of the type that a request asks for; its owner is asked for it, once.
func (b *Broker) parent(r *request) (t api.Type, e api.Errno, known bool) {
	owner := b.owner(r.m.P)
	switch {
	case owner == b.me:
		return b.find(r.m.P)
	case r.answer == nil:
		if r.asked == (api.ID{}) {
			r.asked = b.newID()
			b.send(owner, api.Msg{Kind: api.MsgAsk, Req: r.asked, S: r.m.P})
		}
		return api.Type{}, api.OK, false
	case r.answer.E != api.OK:
		return api.Type{}, r.answer.E, true
	}
	return r.answer.T[0], api.OK, true
}

// parentTold hears of a parent that another owner was asked for.
func (b *Broker) parentTold(m api.Msg) {
	for _, r := range b.held {
		if r.asked == m.Req {
			r.answer = &m
		}
	}
	b.serve()
}

// keepNew keeps a type that no broker kept, and lets its heirs do so.
func (b *Broker) keepNew(t api.Type) (api.Type, api.Errno, bool) {
	if _, e := b.store.Put(t); e != api.OK {
		return api.Type{}, e, true
	}
	b.spread(t)
	return b.find(t.Name)
}

// spread lets a type be kept by its heirs.
func (b *Broker) spread(t api.Type) {
	heirs := b.otherHeirs(t.Name)
	b.store.Begin(t.Name, heirs)
	for _, node := range heirs {
		b.send(node, api.Msg{Kind: api.MsgStore, T: []api.Type{t}})
	}
}

// keep keeps a type as its owner says. One for which there is no room is answered, too: else all that ask for it would wait without end.
func (b *Broker) keep(x letter) {
	t := x.m.T[0]
	b.store.Set(t)
	b.send(x.node, api.Msg{Kind: api.MsgStored, Req: t.By, S: t.Name})
}

// stored hears that an heir keeps a type.
func (b *Broker) stored(x letter) {
	if sure, _ := b.store.Stored(x.m.S, x.m.Req, x.node); sure {
		b.serve()
	}
}

// wanted hears what a broker wants; that it did is said when nobody publishes by an earlier view any more.
func (b *Broker) wanted(x letter) {
	b.table.Put(x.m.S, api.Row{Node: x.node, Ver: x.m.Ver, F: x.m.F})
	m := api.Msg{Kind: api.MsgSubsOK, S: x.m.S, Ver: x.m.Ver}
	if b.begun {
		b.send(x.node, m)
	} else {
		b.owed = append(b.owed, letter{x.node, m})
	}
}

// give gives an event to all that want it: these are up, as the table has rows of this epoch alone.
func (b *Broker) give(r *request) {
	g := &give{id: r.m.X.ID, of: r.m.S, from: r.from}
	for _, node := range b.table.Match(r.m.S, r.m.X.Attrs) {
		g.wait[node] = true
		b.send(node, api.Msg{Kind: api.MsgGive, S: r.m.S, X: r.m.X})
	}
	if !b.over(g) {
		b.gives = append(b.gives, g)
	}
}

// taken hears that a broker has an event.
func (b *Broker) taken(x letter) {
	b.gives = slices.DeleteFunc(b.gives, func(g *give) bool {
		if g.id == x.m.Req && name.Same(g.of, x.m.S) {
			g.wait[x.node] = false
		}
		return b.over(g)
	})
}

// over tells whether all have an event: then the one that published it is told.
func (b *Broker) over(g *give) bool {
	if g.wait != [places]bool{} {
		return false
	}
	b.send(g.from, api.Msg{Kind: api.MsgDone, Req: g.id, S: g.of})
	return true
}
