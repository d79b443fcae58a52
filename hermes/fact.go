package hermes

import (
	"slices"

	"caduceus/api"
	"caduceus/view"
)

// Facts are all facts.
func (h *Hermes) Facts() (l []api.Fact) {
	if h == nil {
		return nil
	}
	for _, x := range h.facts {
		x.C, x.R = copyOfCall(x.C), copyOfReply(x.R)
		l = append(l, x)
	}
	return l
}

// tellCall notes a call, with the ticket and the kind by which its answer is found.
func (h *Hermes) tellCall(node int, c api.Call, r api.Reply) {
	h.note(api.Fact{Node: node, C: copyOfCall(c), R: api.Reply{Ticket: r.Ticket, Kind: r.Kind}})
}

// tell notes an answer.
func (h *Hermes) tell(node int, r api.Reply) {
	h.note(api.Fact{Node: node, IsR: true, R: copyOfReply(r)})
}

// note notes a fact of a node that is up.
func (h *Hermes) note(x api.Fact) {
	x.Life = view.Life(h.newest(), x.Node)
	h.facts = append(h.facts, x)
}

// copyOfCall is a call in memory of its own.
func copyOfCall(c api.Call) api.Call {
	c.Own, c.F, c.Attrs = slices.Clone(c.Own), slices.Clone(c.F), slices.Clone(c.Attrs)
	for i, p := range c.F {
		c.F[i].L = slices.Clone(p.L)
	}
	return c
}

// copyOfReply is an answer in memory of its own.
func copyOfReply(r api.Reply) api.Reply {
	r.G = slices.Clone(r.G)
	for i, g := range r.G {
		r.G[i].X.Attrs = slices.Clone(g.X.Attrs)
	}
	return r
}
