package audit

import (
	"slices"

	"caduceus/api"
	"caduceus/filter"
	"caduceus/forest"
	"caduceus/name"
)

// known is what the facts that were gone through tell.
type known struct {
	facts     []api.Fact
	types     []api.Type
	answers   map[ticket]int // how many answers each has
	published map[api.ID]api.Event
	subs      map[subject][]int // the places of calls that subscribed
	named     map[naming]int    // how many answers gave a subscription a number
	given     map[gift]int      // how often each thing was given
}

// home is a broker: a node in a life.
type home struct {
	node, life int
}

// ticket is by what a client knows the answer to its call.
type ticket struct {
	at     home
	number int
}

// subject is a type, by its name, folded, to which clients of a broker subscribe.
type subject struct {
	at home
	of string
}

// naming is the number of the subscription that a call, by its place, asked for.
type naming struct {
	call, sub int
}

// gift is an event that is given to a subscription at a broker.
type gift struct {
	at  home
	sub int
	id  api.ID
}

// Check is what is wrong with facts.
func Check(l []api.Fact, types []api.Type) (out []api.Finding) {
	k := &known{
		facts:     l,
		types:     types,
		answers:   map[ticket]int{},
		published: map[api.ID]api.Event{},
		subs:      map[subject][]int{},
		named:     map[naming]int{},
		given:     map[gift]int{},
	}
	calls := callsOf(l)
	for i, x := range l {
		if !x.IsR {
			k.noteCall(i)
			continue
		}
		k.check(x, calls[i], func(g, why int) {
			out = append(out, api.Finding{At: i, G: g, Why: why})
		})
		k.noteAnswer(x, calls[i])
	}
	return out
}

// noteCall notes what a call tells.
func (k *known) noteCall(call int) {
	x := k.facts[call]
	if x.C.Kind == api.CallSub {
		s := subject{home{x.Node, x.Life}, name.Fold(x.C.Name)}
		k.subs[s] = append(k.subs[s], call)
	}
}

// noteAnswer notes what an answer tells; what it gives is noted thing by thing, as it is checked.
func (k *known) noteAnswer(x api.Fact, call int) {
	k.answers[ticketOf(x)]++
	if call == noFact {
		return
	}
	c := k.facts[call].C
	if c.Kind == api.CallSub && x.R.E == api.OK {
		k.named[naming{call, x.R.N}]++
	}
	p, is := published(x, c)
	if _, there := k.published[p.ID]; is && !there {
		k.published[p.ID] = p
	}
}

func ticketOf(x api.Fact) ticket {
	return ticket{home{x.Node, x.Life}, x.R.Ticket}
}

// check finds what is wrong with an answer: of itself, and of each thing that it gives.
func (k *known) check(x api.Fact, call int, find func(g, why int)) {
	const itself = -1
	if call == noFact {
		find(itself, api.WhyCall)
	}
	if k.answers[ticketOf(x)] > 0 {
		find(itself, api.WhyAgain)
	}
	at := home{x.Node, x.Life}
	for i, g := range x.R.G {
		if why := k.why(at, g); why != 0 {
			find(i, why)
		}
		k.given[gift{at, g.Sub, g.X.ID}]++
	}
}

// why is the first reason for which a thing may not be given at a broker; 0, if it may.
func (k *known) why(at home, g api.Given) int {
	p, there := k.published[g.X.ID]
	subs := k.subs[subject{at, name.Fold(g.Of)}]
	t, typed := forest.Find(k.types, g.X.Type)
	switch {
	case !there:
		return api.WhyPub
	case !name.Same(p.Type, g.X.Type), !slices.Equal(p.Attrs, g.X.Attrs):
		return api.WhySame
	case len(subs) == 0:
		return api.WhySub
	case !k.wanted(subs, g):
		return api.WhyWant
	case typed && !forest.Of(t, g.Of):
		return api.WhyType
	case k.given[gift{at, g.Sub, g.X.ID}] > 0:
		return api.WhyTwice
	}
	return 0
}

// wanted tells whether one of the calls that subscribed to a type asks for a thing, and none that got the number to which it was given does not.
func (k *known) wanted(subs []int, g api.Given) bool {
	wanted := false
	for _, call := range subs {
		lets := filter.Lets(k.facts[call].C.F, g.X.Attrs)
		if !lets && k.named[naming{call, g.Sub}] > 0 {
			return false
		}
		wanted = wanted || lets
	}
	return wanted
}
