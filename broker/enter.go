package broker

import (
	"slices"

	"caduceus/api"
	"caduceus/forest"
	"caduceus/link"
	"caduceus/view"
	"caduceus/wire"
)

// enter lets the broker enter a view that may be, in which it is up.
func (b *Broker) enter(v api.View) {
	b.view = copyOfView(v)
	for node := range b.ends {
		b.relink(node)
	}
	b.store.Loosen()
	b.table.Clear()
	b.held, b.owed, b.gives = nil, nil, nil
	b.said, b.begun = [places]bool{}, false
	b.sayAll()
	b.askAgain()
	b.begin()
	b.comeDue()
}

// relink lets a link stay as long as both lives do; what had no room in it is of an earlier epoch, and need not go.
func (b *Broker) relink(node int) {
	x := &b.ends[node]
	x.rest = nil
	up, life := view.IsUp(b.view, node), view.Life(b.view, node)
	if node == b.me || x.link != nil && up && x.link.Ends().PeerLife == life {
		return
	}
	x.link = nil
	b.later = slices.DeleteFunc(b.later, func(x letter) bool { return x.node == node })
	if up {
		x.link = link.New(api.Ends{Me: b.me, Life: b.life, Peer: node, PeerLife: life, First: 1})
	}
}

// others are the other members that are up.
func (b *Broker) others() []int {
	return slices.DeleteFunc(view.Live(b.view), func(node int) bool { return node == b.me })
}

// otherHeirs are the other members that are to keep a type, rising.
func (b *Broker) otherHeirs(s string) []int {
	l := slices.DeleteFunc(view.Heirs(b.view, s), func(node int) bool { return node == b.me })
	slices.Sort(l)
	return l
}

// sayAll says what the others are to know in a new epoch.
func (b *Broker) sayAll() {
	var have [places][]api.Type
	for _, t := range b.store.All() {
		for _, node := range b.otherHeirs(t.Name) {
			have[node] = append(have[node], t)
		}
	}
	for node, types := range have {
		for _, m := range b.haves(types) {
			b.send(node, m)
		}
	}
	b.tellAnew()
	for _, node := range b.others() {
		b.send(node, api.Msg{Kind: api.MsgReady})
	}
	b.said[b.me] = true
}

// haves are messages of types, each with as many as there may be.
func (b *Broker) haves(types []api.Type) (l []api.Msg) {
	empty := api.Msg{Kind: api.MsgHave, Epoch: b.view.Epoch}
	size := api.MaxPayload // so that the first type begins the first message
	for _, t := range types {
		more := len(forest.Text(t))
		if size+more > api.MaxPayload || len(l[len(l)-1].T) == api.MaxHave {
			l = append(l, empty)
			size = len(wire.Text(empty))
		}
		last := &l[len(l)-1]
		last.T = append(last.T, t)
		size += more
	}
	return l
}

// tellAnew tells all owners what the clients want.
func (b *Broker) tellAnew() {
	types := b.sessions.Types()
	// A subscription may have gone while its owner was to hear of it: the answer waits for that all the same.
	for _, a := range b.asks {
		if a.sub != 0 && !slices.Contains(types, a.of) {
			types = append(types, a.of)
		}
	}
	b.wants = map[string]told{}
	for _, of := range types {
		b.tell(of, b.nowWanted(of))
	}
}

// askAgain asks the owners for all that is outstanding.
func (b *Broker) askAgain() {
	for _, a := range b.asks {
		if a.sub == 0 {
			b.askFor(a)
		}
	}
	for _, p := range b.pubs {
		b.publish(p)
	}
}

// begin lets the broker be ready, when all have said all.
func (b *Broker) begin() {
	silent := func(node int) bool { return !b.said[node] }
	if b.begun || slices.ContainsFunc(view.Live(b.view), silent) {
		return
	}
	b.begun = true
	for _, t := range b.store.All() {
		if b.owner(t.Name) == b.me {
			b.spread(t)
		}
	}
	for _, x := range b.owed {
		b.send(x.node, x.m)
	}
	b.owed = nil
	b.serve()
}

// comeDue does what was said of this epoch ahead of it, and forgets what was of earlier ones.
func (b *Broker) comeDue() {
	waiting := b.later
	b.later = nil
	for _, x := range waiting {
		b.receive(x)
	}
}

// have keeps what another one keeps.
func (b *Broker) have(m api.Msg) {
	for _, t := range m.T {
		b.store.Put(t)
	}
}
