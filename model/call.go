package model

import (
	"caduceus/api"
	"caduceus/event"
	"caduceus/filter"
	"caduceus/forest"
	"caduceus/name"
	"caduceus/schema"
)

// method is how a call is done at a node.
type method func(m *Model, n *node, c api.Call) api.Reply

// methodOf is how calls of a kind are done; nil, if there are none.
func methodOf(kind int) method {
	methods := [...]method{
		api.CallOpen:     (*Model).open,
		api.CallClose:    (*Model).close,
		api.CallReg:      (*Model).register,
		api.CallAdv:      (*Model).advertise,
		api.CallWithdraw: (*Model).withdraw,
		api.CallSub:      (*Model).subscribe,
		api.CallUnsub:    (*Model).unsubscribe,
		api.CallPub:      (*Model).publish,
		api.CallPoll:     (*Model).poll,
		api.CallOver:     (*Model).over,
	}
	if kind < 0 || kind >= len(methods) {
		return nil
	}
	return methods[kind]
}

// Call does a call.
func (m *Model) Call(node int, c api.Call) api.Reply {
	r := m.answer(node, c)
	r.Kind = c.Kind
	return r
}

// answer is the answer to a call, without its kind.
func (m *Model) answer(node int, c api.Call) api.Reply {
	n := m.find(node)
	if n == nil {
		return api.Reply{E: api.ErrDown}
	}
	do := methodOf(c.Kind)
	if do == nil {
		return api.Reply{E: api.ErrArg}
	}
	return do(m, n, c)
}

func (m *Model) open(n *node, c api.Call) (r api.Reply) {
	r.N, r.E = n.sessions.Open(c.N)
	return r
}

func (m *Model) close(n *node, c api.Call) (r api.Reply) {
	r.E = n.sessions.Close(c.Session)
	return r
}

func (m *Model) poll(n *node, c api.Call) (r api.Reply) {
	r.G, r.E = n.sessions.Poll(c.Session, c.N)
	return r
}

func (m *Model) over(n *node, c api.Call) (r api.Reply) {
	r.N, r.E = n.sessions.Over(c.Session, c.N)
	return r
}

func (m *Model) register(n *node, c api.Call) api.Reply {
	if e := mayRegister(n, c); e != api.OK {
		return api.Reply{E: e}
	}
	t, e := forest.Make(m.types, c.Name, c.Parent, c.Own, n.newID(n.registered+1))
	if e == api.OK {
		e = m.add(t)
	}
	if e == api.OK {
		n.registered++
	}
	return api.Reply{E: e}
}

// mayRegister is what is wrong with a registration, whatever the registry has.
func mayRegister(n *node, c api.Call) api.Errno {
	if !n.sessions.IsOpen(c.Session) {
		return api.ErrNone
	}
	if !schema.Check(c.Own) {
		return api.ErrArg
	}
	if e := name.Check(c.Name); e != api.OK {
		return e
	}
	if c.Parent == "" {
		return api.OK
	}
	return name.Check(c.Parent)
}

func (m *Model) advertise(n *node, c api.Call) api.Reply {
	t, e := m.typeFor(n, c)
	if e == api.OK {
		e = n.sessions.Advertise(c.Session, t)
	}
	return api.Reply{E: e}
}

func (m *Model) withdraw(n *node, c api.Call) (r api.Reply) {
	r.E = n.sessions.Withdraw(c.Session, c.Name)
	return r
}

func (m *Model) subscribe(n *node, c api.Call) (r api.Reply) {
	t, e := m.typeFor(n, c)
	if e != api.OK {
		return api.Reply{E: e}
	}
	r.N, r.E = n.sessions.Subscribe(c.Session, t, c.F)
	return r
}

func (m *Model) unsubscribe(n *node, c api.Call) (r api.Reply) {
	_, r.E = n.sessions.Unsubscribe(c.Session, c.N)
	return r
}

// typeFor is the type that a session asks for.
func (m *Model) typeFor(n *node, c api.Call) (api.Type, api.Errno) {
	if !n.sessions.IsOpen(c.Session) {
		return api.Type{}, api.ErrNone
	}
	if e := name.Check(c.Name); e != api.OK {
		return api.Type{}, e
	}
	if c.Kind == api.CallSub && !filter.Check(c.F) {
		return api.Type{}, api.ErrArg
	}
	t, is := forest.Find(m.types, c.Name)
	if !is {
		return api.Type{}, api.ErrNone
	}
	return t, api.OK
}

func (m *Model) publish(n *node, c api.Call) api.Reply {
	t, is := n.sessions.Ad(c.Session, c.Name)
	if !is {
		return api.Reply{E: api.ErrNone}
	}
	attrs, e := event.Sort(c.Attrs)
	if e != api.OK {
		return api.Reply{E: e}
	}
	x := api.Event{Type: t.Name, Attrs: attrs}
	if e := forest.Fits(t, x); e != api.OK {
		return api.Reply{E: e}
	}
	n.published++
	x.ID = n.newID(n.published)
	m.deliver(t.Chain, x)
	return api.Reply{ID: x.ID}
}
