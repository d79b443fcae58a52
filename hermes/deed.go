package hermes

import (
	"caduceus/api"
	"caduceus/broker"
	"caduceus/view"
)

// Do does a deed.
func (h *Hermes) Do(d api.Deed) (api.Reply, api.Errno) {
	if h == nil {
		return api.Reply{}, api.ErrArg
	}
	r, e := h.do(d)
	h.sendAll()
	return r, e
}

// do does a deed, without what it lets happen behind it.
func (h *Hermes) do(d api.Deed) (r api.Reply, e api.Errno) {
	hop := api.Hop{From: d.Node, To: d.To}
	switch d.Kind {
	case api.DeedCall:
		r, e = h.call(d.Node, d.C)
	case api.DeedCome:
		e = h.come(hop, d.I)
	case api.DeedLose:
		e = h.way.Lose(hop, d.I)
	case api.DeedTwice:
		e = h.way.Twice(hop, d.I)
	case api.DeedTick:
		e = h.tick(d.Node)
	case api.DeedCrash:
		e = h.crash(d.Node)
	case api.DeedRise:
		e = h.rise(d.Node)
	case api.DeedLearn:
		e = h.learn(d.Node)
	case api.DeedApart:
		e = h.way.Apart(d.Node, d.To, d.On)
	case api.DeedCalm:
		if _, done := h.Calm(); !done {
			e = api.ErrDown
		}
	default:
		e = api.ErrArg
	}
	return r, e
}

// call lets a client call.
func (h *Hermes) call(node int, c api.Call) (api.Reply, api.Errno) {
	b := h.Broker(node)
	if b == nil {
		return api.Reply{}, api.ErrDown
	}
	r, done := b.Call(c)
	h.tellCall(node, c, r)
	if done {
		h.tell(node, r)
	}
	return r, api.OK
}

// come lets a packet come; one to a node that is not up is lost.
func (h *Hermes) come(hop api.Hop, i int) api.Errno {
	p, e := h.way.Take(hop, i)
	if e != api.OK {
		return e
	}
	h.brokers[hop.To].Take(p)
	return api.OK
}

// tick lets time go on at a node.
func (h *Hermes) tick(node int) api.Errno {
	b := h.Broker(node)
	if b == nil {
		return api.ErrDown
	}
	b.Tick()
	return api.OK
}

// crash lets a node go down.
func (h *Hermes) crash(node int) api.Errno {
	v, e := view.Down(h.newest(), node)
	if e != api.OK {
		return e
	}
	h.views = append(h.views, v)
	h.brokers[node] = nil
	return api.OK
}

// rise lets a node come up.
func (h *Hermes) rise(node int) api.Errno {
	v, e := view.Up(h.newest(), node)
	if e != api.OK {
		return e
	}
	h.views = append(h.views, v)
	h.brokers[node] = broker.New(node, v)
	return api.OK
}

// learn lets a node enter the view of the next epoch.
func (h *Hermes) learn(node int) api.Errno {
	b := h.Broker(node)
	if b == nil {
		return api.ErrDown
	}
	if !h.isBehind(b) {
		return api.ErrNone
	}
	// The first view, of epoch 1, stands at 0: the next one's place is this one's epoch.
	return b.Enter(h.views[b.View().Epoch])
}
