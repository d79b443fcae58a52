package broker

import (
	"caduceus/api"
	"caduceus/link"
	"caduceus/wire"
)

// end is the end of a link to another broker, and the texts for which it has no room yet.
type end struct {
	link *link.Link
	rest []string
}

// letter is a message, and who sent it, or to whom it is to go.
type letter struct {
	node int
	m    api.Msg
}

// send sends a message to a broker that is up.
func (b *Broker) send(to int, m api.Msg) {
	m.Epoch = b.view.Epoch
	if to == b.me {
		b.inner = append(b.inner, letter{to, m})
		return
	}
	x := &b.ends[to]
	x.rest = append(x.rest, wire.Text(m))
	b.flush(to)
}

// flush hands texts to a link, as long as it has room.
func (b *Broker) flush(to int) {
	x := &b.ends[to]
	for len(x.rest) > 0 {
		out, e := x.link.Send(x.rest[0])
		if e != api.OK {
			return
		}
		b.out = append(b.out, out...)
		x.rest = x.rest[1:]
	}
	x.rest = nil
}

// settle does what the broker sent to itself: not earlier, so that nothing changes while it is gone through.
func (b *Broker) settle() {
	for len(b.inner) > 0 {
		x := b.inner[0]
		b.inner = b.inner[1:]
		b.do(x)
	}
	b.inner = nil
}

// receive takes a message of this epoch, and lets one of a later epoch wait.
func (b *Broker) receive(x letter) {
	switch {
	case x.m.Epoch > b.view.Epoch:
		b.later = append(b.later, x)
	case x.m.Epoch == b.view.Epoch:
		b.do(x)
		b.settle()
	}
}

// do does what a message says.
func (b *Broker) do(x letter) {
	switch x.m.Kind {
	case api.MsgReg, api.MsgAsk, api.MsgPub:
		b.request(&request{from: x.node, m: x.m})
	case api.MsgRegOK:
		b.registered(x.m)
	case api.MsgTell:
		b.typeTold(x.m)
	case api.MsgStore:
		b.keep(x)
	case api.MsgStored:
		b.stored(x)
	case api.MsgSubs:
		b.wanted(x)
	case api.MsgSubsOK:
		b.heard(x.m)
	case api.MsgDone:
		b.givenToAll(x.m)
	case api.MsgGive:
		b.deliver(x)
	case api.MsgGot:
		b.taken(x)
	case api.MsgHave:
		b.have(x.m)
	case api.MsgReady:
		b.said[x.node] = true
		b.begin()
	}
}
