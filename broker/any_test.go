package broker

import (
	"math/rand"
	"strconv"
	"testing"

	"caduceus/api"
	"caduceus/link"
	"caduceus/view"
	"caduceus/wire"
)

// anyMessage is a message that may be, whatever it says.
func anyMessage(r *rand.Rand, t *testing.T, epoch int) api.Msg {
	n := someName(r)
	by := id(1+r.Intn(3), 1, 1+r.Intn(40))
	kind := rootOf(t, n, by)
	if r.Intn(3) == 0 {
		kind = belowOf(t, rootOf(t, "top", by), n, by)
	}
	m := api.Msg{Kind: api.MsgReg + r.Intn(api.MsgReady), Epoch: max(1, epoch+r.Intn(4)-1), Req: by, S: n, Ver: 1 + r.Intn(9)}
	m.X = api.Event{ID: by, Type: n, Attrs: []api.Attr{intAttr("a", r.Intn(6))}}
	m.F = [][]api.Pred{someFilter(r, t), someFilter(r, t)}[:r.Intn(3)]
	m.P, m.T = someName(r), []api.Type{kind}
	if r.Intn(2) == 0 {
		m.P = ""
	}
	if r.Intn(3) == 0 {
		m.E, m.T = api.Errno(1+r.Intn(99)), nil
	}
	// What its kind does not have is taken away, until it may be.
	for _, clear := range []func(){
		func() {}, func() { m.F = nil }, func() { m.X = api.Event{} }, func() { m.Ver = 0 }, func() { m.P = "" },
		func() { m.Req = api.ID{} }, func() { m.E = 0 }, func() { m.T = nil }, func() { m.S = "" },
	} {
		clear()
		if wire.Check(m) {
			return m
		}
	}
	return whole(m, kind)
}

// whole is a message of the kind with what that has alone.
func whole(m api.Msg, t api.Type) api.Msg {
	x := api.Msg{Kind: m.Kind, Epoch: m.Epoch}
	switch m.Kind {
	case api.MsgReg, api.MsgAsk, api.MsgStored, api.MsgDone, api.MsgGot:
		x.Req, x.S = t.By, t.Name
	case api.MsgRegOK, api.MsgTell:
		x.Req, x.T = t.By, []api.Type{t}
	case api.MsgStore, api.MsgHave:
		x.T = []api.Type{t}
	case api.MsgSubs:
		x.S, x.Ver, x.F = t.Name, 1+t.By.Seq, [][]api.Pred{nil}
	case api.MsgSubsOK:
		x.S, x.Ver = t.Name, 1+t.By.Seq
	case api.MsgPub, api.MsgGive:
		x.S, x.X = t.Name, api.Event{ID: t.By, Type: t.Name}
	}
	return x
}

// anyView is a view of a later epoch, in which a node is up in its first life, and others are as they like.
func anyView(r *rand.Rand, epoch, me int) api.View {
	v := api.View{Epoch: epoch}
	for node := 1; node <= 6; node++ {
		switch {
		case node == me:
			v.L = append(v.L, api.Member{Node: node, Life: 1, Up: true})
		case r.Intn(4) > 0:
			v.L = append(v.L, api.Member{Node: node, Life: 1 + r.Intn(2), Up: r.Intn(3) > 0})
		}
	}
	return v
}

// R1 and promise 20.3: whatever comes, no call panics, each answer is one to a call, once, and no more is outstanding than may be.
func TestAnythingComes(t *testing.T) {
	kinds := map[int]int{}
	for seed := range 60 {
		r := rand.New(rand.NewSource(int64(seed)))
		b := New(2, anyView(r, 1, 2))
		var links [places]*link.Link
		answered := map[int]int{}
		for range 400 {
			switch r.Intn(12) {
			case 0:
				b.Tick()
			case 1:
				if r.Intn(4) == 0 {
					b.Enter(anyView(r, b.View().Epoch+r.Intn(3), 2))
				}
			case 2, 3, 4:
				c := wrongCall(r, t)
				if x, done := b.Call(c); done {
					answered[x.Ticket]++
				}
			case 5:
				b.Take(api.Packet{From: r.Intn(8), To: 2, FromLife: 1 + r.Intn(2), ToLife: 1, Seq: r.Intn(9), Ack: r.Intn(9), Text: strconv.Itoa(r.Int())})
			default:
				node := 1 + r.Intn(6)
				x := api.Ends{Me: node, Life: view.Life(b.View(), node), Peer: 2, PeerLife: 1, First: 1}
				if links[node] == nil || links[node].Ends() != x {
					links[node] = link.New(x)
				}
				m := anyMessage(r, t, b.View().Epoch)
				out, _ := links[node].Send(wire.Text(m))
				for _, p := range out {
					if b.Take(p) == api.OK {
						kinds[m.Kind]++
					}
				}
			}
			for _, p := range b.Out() {
				if links[p.To] == nil || r.Intn(4) == 0 {
					continue
				}
				_, back, _ := links[p.To].Take(p)
				for _, p := range back {
					b.Take(p)
				}
			}
			for _, x := range b.Replies() {
				answered[x.Ticket]++
			}
			if len(b.asks) > MaxAsks || len(b.pubs) > MaxPubs || len(b.Types()) > api.MaxTypes || len(b.inner) != 0 {
				t.Fatalf("seed %d: %d answers, %d events, %d types", seed, len(b.asks), len(b.pubs), len(b.Types()))
			}
		}
		for ticket, count := range answered {
			if ticket < 1 || ticket > b.tickets || count != 1 {
				t.Fatalf("seed %d: call %d of %d was answered %d times", seed, ticket, b.tickets, count)
			}
		}
	}
	for kind := api.MsgReg; kind <= api.MsgReady; kind++ {
		if kinds[kind] < 20 {
			t.Errorf("only %d messages of kind %d came", kinds[kind], kind)
		}
	}
}
