package hermes

import (
	"caduceus/api"
	"caduceus/broker"
)

// MostRounds is how many rounds there are at most until all is calm, if nothing waits.
const MostRounds = 60

// moreRounds is how many more there are for each thing that waits.
const moreRounds = 4

// idleRounds is behind how many rounds in a row all are idle when all is calm.
const idleRounds = 2

// Calm lets all come to its end.
func (h *Hermes) Calm() (rounds int, done bool) {
	if h == nil {
		return 0, false
	}
	h.joinAll()
	h.enterNewest()
	most := h.mostRounds()
	idle := 0
	for rounds < most && idle < idleRounds {
		h.round()
		rounds++
		idle++
		if !h.allIdle() {
			idle = 0
		}
	}
	return rounds, idle == idleRounds
}

// joinAll lets nobody be apart.
func (h *Hermes) joinAll() {
	for a := 1; a <= api.MaxNode; a++ {
		for b := a + 1; b <= api.MaxNode; b++ {
			h.way.Apart(a, b, false)
		}
	}
}

// enterNewest lets all brokers enter the newest view.
func (h *Hermes) enterNewest() {
	h.each(func(b *broker.Broker) {
		if h.isBehind(b) {
			b.Enter(h.newest())
		}
	})
	h.sendAll()
}

// mostRounds is how many rounds there are at most, as much as waits now.
func (h *Hermes) mostRounds() int {
	most := MostRounds
	h.each(func(b *broker.Broker) { most += moreRounds * b.Waits() })
	return most
}

// round lets each broker tick, and all packets come.
func (h *Hermes) round() {
	h.each((*broker.Broker).Tick)
	h.sendAll()
	for hops := h.way.Hops(); len(hops) > 0; hops = h.way.Hops() {
		for _, hop := range hops {
			h.come(hop, 0)
			h.sendAll()
		}
	}
}
