package broker

import (
	"math"
	"slices"
	"strconv"
	"strings"
	"testing"

	"caduceus/api"
	"caduceus/filter"
	"caduceus/forest"
	"caduceus/link"
	"caduceus/view"
	"caduceus/wire"
)

// stage is a broker, and the ends of its links at the other nodes, which a test plays.
type stage struct {
	t     *testing.T
	b     *Broker
	links [places]*link.Link
	got   [places][]api.Msg // what each one heard
}

// play is a broker in a view, whose first packets have come.
func play(t *testing.T, me int, v api.View) *stage {
	t.Helper()
	s := &stage{t: t, b: New(me, v)}
	if s.b == nil {
		t.Fatalf("no broker %d in %+v", me, v)
	}
	s.connect()
	return s
}

// connect lets the others have the broker's view.
func (s *stage) connect() {
	s.t.Helper()
	v := s.b.View()
	for node := 1; node < places; node++ {
		x := api.Ends{Me: node, Life: view.Life(v, node), Peer: s.b.me, PeerLife: s.b.life, First: 1}
		if node == s.b.me || !view.IsUp(v, node) {
			s.links[node] = nil
		} else if s.links[node] == nil || s.links[node].Ends() != x {
			s.links[node] = link.New(x)
		}
	}
	s.meet()
}

func (s *stage) enter(v api.View) {
	s.t.Helper()
	if e := s.b.Enter(v); e != api.OK {
		s.t.Fatalf("Enter(%+v): %v", v, e)
	}
	s.connect()
}

// meet lets all packets come.
func (s *stage) meet() {
	s.t.Helper()
	for out := s.b.Out(); len(out) > 0; out = s.b.Out() {
		for _, p := range out {
			if s.links[p.To] == nil {
				continue
			}
			texts, back, e := s.links[p.To].Take(p)
			if e != api.OK {
				s.t.Fatalf("%+v: %v", p, e)
			}
			for _, text := range texts {
				m, e := wire.Read(text)
				if e != api.OK {
					s.t.Fatalf("%d hears %q: %v", p.To, text, e)
				}
				s.got[p.To] = append(s.got[p.To], m)
			}
			s.takes(back)
		}
	}
}

func (s *stage) takes(l []api.Packet) {
	s.t.Helper()
	for _, p := range l {
		if e := s.b.Take(p); e != api.OK {
			s.t.Fatalf("Take(%+v): %v", p, e)
		}
	}
}

// say lets a node say something: of the broker's epoch, if it names none.
func (s *stage) say(node int, l ...api.Msg) {
	s.t.Helper()
	for _, m := range l {
		if m.Epoch == 0 {
			m.Epoch = s.b.View().Epoch
		}
		text := wire.Text(m)
		if text == "" {
			s.t.Fatalf("%+v may not be", m)
		}
		out, e := s.links[node].Send(text)
		if e != api.OK {
			s.t.Fatal(e)
		}
		s.takes(out)
	}
	s.meet()
}

// ready lets all others say that they said all.
func (s *stage) ready() {
	s.t.Helper()
	for _, node := range s.b.others() {
		s.say(node, api.Msg{Kind: api.MsgReady})
	}
	if !s.b.Ready() {
		s.t.Fatal("not ready")
	}
}

// forget lets all forget what they heard.
func (s *stage) forget() { s.got = [places][]api.Msg{} }

// hears holds what a node heard since it was asked last against what it should, of the broker's epoch.
func (s *stage) hears(what string, node int, want ...api.Msg) {
	s.t.Helper()
	for i := range want {
		want[i].Epoch = s.b.View().Epoch
	}
	if got := s.got[node]; !slices.EqualFunc(got, want, wire.Same) {
		s.t.Fatalf("%s: %d heard %+v, not %+v", what, node, got, want)
	}
	s.got[node] = nil
}

// calls calls, and lets all packets come: the ticket.
func (s *stage) calls(c api.Call) int {
	s.t.Helper()
	r, done := s.b.Call(c)
	if done {
		s.t.Fatalf("%+v: %+v at once", c, r)
	}
	s.meet()
	return r.Ticket
}

// done calls what is answered at once.
func (s *stage) done(c api.Call) api.Reply {
	s.t.Helper()
	r, done := s.b.Call(c)
	if !done {
		s.t.Fatalf("%+v is not answered at once", c)
	}
	s.meet()
	return r
}

// answers holds the answers that came against those that should have.
func (s *stage) answers(what string, want ...api.Reply) {
	s.t.Helper()
	if got := s.b.Replies(); !slices.EqualFunc(got, want, sameReply) {
		s.t.Fatalf("%s: the answers %+v, not %+v", what, got, want)
	}
}

func sameReply(a, b api.Reply) bool {
	return a.Ticket == b.Ticket && a.ID == b.ID && sameAnswers(a, b)
}

// owned is the i-th name that a node owns. The points of nodes stand close together, and few names have a key between two of them: these do.
func owned(t *testing.T, v api.View, node, i int) string {
	t.Helper()
	s := [][]string{
		1: {"tdwtps", "te8tie", "tgshq0", "tmm8j1", "tnvu7l", "tr3vyn"},
		2: {"tc0zpz", "tdwtpr", "te8tiz", "tgshq3", "tmm8j2", "tnvu7m"},
		3: {"tc0zpe", "tdwtpm", "tgshq2", "tmm8j3", "tnvu7n", "tr3vyl"},
		4: {"t7umk4", "tc0zpd", "tdwtpl", "te8tix", "tmm8j4", "tnvu7o"},
		5: {"t7umk5", "tc0zpg", "tdwtpo", "te8tiy", "tmm8j5", "tnvu7p"},
	}[node][i]
	if owner, _ := view.Owner(v, s); owner != node {
		t.Fatalf("%d owns %q in %+v, not %d", owner, s, v, node)
	}
	return s
}

func rootOf(t *testing.T, s string, by api.ID) api.Type {
	t.Helper()
	x, e := forest.Root(s, []api.Field{intField("a")}, by)
	if e != api.OK {
		t.Fatal(e)
	}
	return x
}

func belowOf(t *testing.T, of api.Type, s string, by api.ID) api.Type {
	t.Helper()
	x, e := forest.Below(of, s, nil, by)
	if e != api.OK {
		t.Fatal(e)
	}
	return x
}

func id(node, life, seq int) api.ID { return api.ID{Node: node, Life: life, Seq: seq} }

func downOf(t *testing.T, v api.View, node int) api.View {
	t.Helper()
	v, e := view.Down(v, node)
	if e != api.OK {
		t.Fatal(e)
	}
	return v
}

func upOf(t *testing.T, v api.View, node int) api.View {
	t.Helper()
	v, e := view.Up(v, node)
	if e != api.OK {
		t.Fatal(e)
	}
	return v
}

// The example of the chapter.
func TestExample(t *testing.T) {
	s := play(t, 1, firstView(t, 1))
	if r := s.done(api.Call{Kind: api.CallOpen, N: 5}); r.N != 1 || r.E != api.OK {
		t.Fatalf("CallOpen: %+v", r)
	}
	s.calls(api.Call{Kind: api.CallReg, Session: 1, Name: "News"})
	s.answers("CallReg", api.Reply{Ticket: 2, Kind: api.CallReg})
	s.b.Call(api.Call{Kind: api.CallAdv, Session: 1, Name: "News"})
	s.b.Call(api.Call{Kind: api.CallSub, Session: 1, Name: "News"})
	s.done(api.Call{Kind: api.CallPub, Session: 1, Name: "News"})
	r := s.done(api.Call{Kind: api.CallPoll, Session: 1, N: 5})
	if len(r.G) != 1 || r.G[0].Of != "News" || r.G[0].Sub != 1 || r.G[0].X.Type != "News" || r.G[0].X.ID != id(1, 1, 4) {
		t.Fatalf("CallPoll: %+v", r)
	}
}

// Promise 20.1: New.
func TestNew(t *testing.T) {
	v := downOf(t, firstView(t, 1, 2, 3), 2)
	for _, me := range []int{0, -1, 2, 4, 15, 16, math.MinInt, math.MaxInt} {
		if New(me, v) != nil {
			t.Errorf("a broker %d in %+v", me, v)
		}
	}
	for _, wrong := range []api.View{{}, {Epoch: 1}, {Epoch: 0, L: v.L}, {Epoch: api.MaxCount + 1, L: v.L}, {Epoch: 1, L: []api.Member{{Node: 3, Life: 1, Up: true}, {Node: 1, Life: 1, Up: true}}}, {Epoch: 1, L: []api.Member{{Node: 1, Up: true}}}} {
		if New(1, wrong) != nil {
			t.Errorf("a broker in %+v", wrong)
		}
	}
	v = upOf(t, upOf(t, downOf(t, v, 1), 1), 2)
	b := New(1, v)
	if b == nil || !sameView(b.View(), v) || b.Ready() || b.Types() != nil || b.Sessions() == nil || b.Sessions().IsOpen(1) {
		t.Fatalf("the broker %+v", b)
	}
	b.Call(api.Call{Kind: api.CallOpen, N: 1})
	b.Call(api.Call{Kind: api.CallReg, Session: 1, Name: "News"})
	for _, p := range b.Out() {
		if p.FromLife != 2 || p.ToLife != view.Life(v, p.To) || p.From != 1 {
			t.Errorf("a broker in life 2 sends %+v", p)
		}
	}
	if x := b.asks[0].id; x != id(1, 2, 1) {
		t.Errorf("it makes %+v", x)
	}
	if b := New(1, firstView(t, 1)); !b.Ready() || !b.Idle() || b.Out() != nil {
		t.Errorf("a broker alone is not ready")
	}
}

func sameView(a, b api.View) bool {
	return a.Epoch == b.Epoch && slices.Equal(a.L, b.L)
}

// Promise 20.1: Enter.
func TestEnter(t *testing.T) {
	first := firstView(t, 1, 2, 3)
	second := downOf(t, first, 2)
	b := New(1, second)
	rise := upOf(t, downOf(t, upOf(t, second, 2), 1), 1)
	for what, wrong := range map[string]api.View{
		"no view":               {},
		"an epoch beyond":       {Epoch: api.MaxCount + 1, L: second.L},
		"without members":       {Epoch: 9},
		"the same epoch":        second,
		"an earlier epoch":      first,
		"it is down":            downOf(t, second, 1),
		"it is in another life": rise,
		"it is no member":       {Epoch: 9, L: second.L[1:]},
	} {
		if e := b.Enter(wrong); e != api.ErrArg || !sameView(b.View(), second) {
			t.Errorf("%s: %v, and then %+v", what, e, b.View())
		}
	}
	third := upOf(t, second, 2)
	ninth := api.View{Epoch: 9, L: third.L}
	if e := b.Enter(ninth); e != api.OK || !sameView(b.View(), ninth) {
		t.Errorf("Enter of a later epoch: %v, %+v", e, b.View())
	}
}

// R3: a view that is entered, or answered, is not shared.
func TestViewsAreNotShared(t *testing.T) {
	v := firstView(t, 1, 2, 3)
	b := New(1, v)
	clear(v.L)
	if got := b.View(); !sameView(got, firstView(t, 1, 2, 3)) {
		t.Fatalf("the view is %+v", got)
	}
	clear(b.View().L)
	if got := b.View(); !sameView(got, firstView(t, 1, 2, 3)) {
		t.Fatalf("the view is %+v", got)
	}
	v = downOf(t, firstView(t, 1, 2, 3), 3)
	b.Enter(v)
	clear(v.L)
	if got := b.View(); !sameView(got, downOf(t, firstView(t, 1, 2, 3), 3)) {
		t.Fatalf("the view is %+v", got)
	}
}

// Words: who enters a view says which types it keeps to their heirs, what is wanted to the owners, and then that it said all; what is outstanding is asked again behind that.
func TestEntersAndSaysAll(t *testing.T) {
	v := firstView(t, 1, 2, 3, 4, 5)
	s := play(t, 1, v)
	for node := 2; node <= 5; node++ {
		s.hears("at first", node, api.Msg{Kind: api.MsgReady})
	}
	s.ready()
	w := downOf(t, v, 5)
	// Of each other node a type that it owns; some of them the broker keeps.
	kept := map[int][]api.Type{}
	for i := range 12 {
		x := rootOf(t, "k"+strconv.Itoa(i), id(2, 1, i+1))
		s.say(2, api.Msg{Kind: api.MsgHave, T: []api.Type{x}})
		for _, node := range view.Heirs(w, x.Name) {
			kept[node] = append(kept[node], x)
		}
	}
	for _, l := range kept {
		slices.SortFunc(l, func(a, b api.Type) int { return strings.Compare(a.Name, b.Name) })
	}
	s.done(api.Call{Kind: api.CallOpen, N: 5})
	wanted := owned(t, w, 2, 0)
	s.subscribed(wanted, "a = 1")
	asked := owned(t, w, 3, 0)
	s.calls(api.Call{Kind: api.CallAdv, Session: 1, Name: asked})
	s.forget()
	s.enter(w)
	tail := map[int][]api.Msg{3: {{Kind: api.MsgAsk, Req: id(1, 1, 2), S: asked}}}
	for node := 2; node <= 4; node++ {
		want := []api.Msg{{Kind: api.MsgHave, T: kept[node]}}
		if node == 2 {
			want = append(want, api.Msg{Kind: api.MsgSubs, S: wanted, Ver: 2, F: [][]api.Pred{parsed(t, "a = 1")}})
		}
		want = append(want, api.Msg{Kind: api.MsgReady})
		s.hears("in the next view", node, append(want, tail[node]...)...)
	}
	if s.b.Ready() {
		t.Errorf("ready, though nobody said all in this epoch")
	}
	if l := s.b.Types(); len(l) != 12 {
		t.Errorf("it keeps %+v", l)
	}
}

// subscribed subscribes to a type, that its owner tells: the answer comes.
func (s *stage) subscribed(n, f string) int {
	s.t.Helper()
	owner := s.b.owner(n)
	ticket := s.calls(api.Call{Kind: api.CallSub, Session: 1, Name: n, F: parsed(s.t, f)})
	s.say(owner, api.Msg{Kind: api.MsgTell, Req: s.b.asks[len(s.b.asks)-1].id, T: []api.Type{rootOf(s.t, n, id(9, 1, 1))}})
	s.say(owner, api.Msg{Kind: api.MsgSubsOK, S: n, Ver: s.b.versions})
	l := s.b.Replies()
	if len(l) != 1 || l[0].Ticket != ticket || l[0].E != api.OK {
		s.t.Fatalf("CallSub: %+v", l)
	}
	return l[0].N
}

// Words: a broker is ready when all that are up said all in this epoch; until then requests to it, and answers to wants, wait.
func TestRequestsWaitUntilItIsReady(t *testing.T) {
	v := downOf(t, firstView(t, 1, 2, 3, 4), 4)
	s := play(t, 1, v)
	s.forget()
	a, b, c := owned(t, v, 1, 0), owned(t, v, 1, 1), owned(t, v, 1, 2)
	x := api.Event{ID: id(2, 1, 9), Type: c}
	s.say(2,
		api.Msg{Kind: api.MsgSubs, S: c, Ver: 3, F: [][]api.Pred{nil}},
		api.Msg{Kind: api.MsgReady},
		api.Msg{Kind: api.MsgReg, Req: id(2, 1, 1), S: a},
		api.Msg{Kind: api.MsgAsk, Req: id(2, 1, 2), S: b},
		api.Msg{Kind: api.MsgPub, S: c, X: x},
	)
	// What another owner tells is heard meanwhile.
	s.say(2, api.Msg{Kind: api.MsgTell, Req: id(1, 1, 50), E: api.ErrNone})
	s.hears("before it is ready", 2)
	if s.b.Ready() || s.b.Idle() {
		t.Fatalf("ready without 3")
	}
	if rows := s.b.Wants(c); len(rows) != 1 || rows[0].Node != 2 || rows[0].Ver != 3 || len(rows[0].F) != 1 {
		t.Fatalf("it knows of %+v", rows)
	}
	s.say(3, api.Msg{Kind: api.MsgReady})
	if !s.b.Ready() {
		t.Fatalf("not ready, though all said all")
	}
	made, _ := forest.Root(a, nil, id(2, 1, 1))
	s.hears("when it is ready", 2,
		api.Msg{Kind: api.MsgSubsOK, S: c, Ver: 3},
		api.Msg{Kind: api.MsgStore, T: []api.Type{made}},
		api.Msg{Kind: api.MsgTell, Req: id(2, 1, 2), E: api.ErrNone},
		api.Msg{Kind: api.MsgGive, S: c, X: x},
	)
	s.hears("when it is ready", 3, api.Msg{Kind: api.MsgStore, T: []api.Type{made}})
}

// Words: what clients ask for waits likewise, if the broker itself is the owner.
func TestOwnCallsWaitUntilItIsReady(t *testing.T) {
	v := firstView(t, 1, 2)
	s := play(t, 1, v)
	n := owned(t, v, 1, 0)
	s.done(api.Call{Kind: api.CallOpen, N: 5})
	s.calls(api.Call{Kind: api.CallReg, Session: 1, Name: n})
	s.answers("before it is ready")
	s.forget()
	s.ready()
	made, _ := forest.Root(n, nil, id(1, 1, 1))
	s.hears("when it is ready", 2, api.Msg{Kind: api.MsgStore, T: []api.Type{made}})
	s.answers("before 2 keeps the type")
	s.say(2, api.Msg{Kind: api.MsgStored, Req: id(1, 1, 1), S: n})
	s.answers("behind it", api.Reply{Ticket: 2, Kind: api.CallReg})
}

// Words: a message of an earlier epoch is passed over, one of a later epoch waits until the broker has that view.
func TestEpochs(t *testing.T) {
	first := firstView(t, 1, 2)
	var views []api.View
	for epoch := 1; epoch <= 9; epoch++ {
		views = append(views, api.View{Epoch: epoch, L: first.L})
	}
	s := play(t, 1, views[2])
	n := owned(t, first, 1, 0)
	subs := func(epoch, ver int) api.Msg {
		return api.Msg{Kind: api.MsgSubs, Epoch: epoch, S: n, Ver: ver, F: [][]api.Pred{nil}}
	}
	s.say(2, subs(2, 77), subs(5, 50), api.Msg{Kind: api.MsgReady, Epoch: 2}, subs(6, 60), subs(4, 40), subs(5, 51), api.Msg{Kind: api.MsgReady, Epoch: 6}, api.Msg{Kind: api.MsgAsk, Epoch: 6, Req: id(2, 1, 1), S: n})
	if rows := s.b.Wants(n); rows != nil || s.b.Ready() {
		t.Fatalf("epoch 3: %+v, ready %v", rows, s.b.Ready())
	}
	for i, want := range []struct {
		enter, ver int
		ready      bool
	}{{5, 51, false}, {6, 60, true}, {8, 0, false}} {
		s.forget()
		s.enter(views[want.enter-1])
		if want.enter == 6 {
			s.hears("in epoch 6", 2, api.Msg{Kind: api.MsgReady}, api.Msg{Kind: api.MsgSubsOK, S: n, Ver: 60}, api.Msg{Kind: api.MsgTell, Req: id(2, 1, 1), E: api.ErrNone})
		}
		rows := s.b.Wants(n)
		if want.ver == 0 && rows != nil || want.ver != 0 && (len(rows) != 1 || rows[0].Ver != want.ver) || s.b.Ready() != want.ready {
			t.Fatalf("%d: epoch %d: %+v, ready %v", i, want.enter, rows, s.b.Ready())
		}
	}
}

// Words: what waits for a later epoch goes with its link.
func TestWhatWaitsGoesWithItsLink(t *testing.T) {
	first := firstView(t, 1, 2)
	s := play(t, 1, first)
	s.say(2, api.Msg{Kind: api.MsgReady, Epoch: 3})
	second := downOf(t, first, 2)
	s.enter(second)
	s.enter(api.View{Epoch: 3, L: first.L})
	if s.b.Ready() {
		t.Errorf("ready by a message of a link that went")
	}
	s.ready()
}

// Words: a link stays as long as both lives do; what begins anew begins with 1.
func TestLinksStayAsLongAsBothLives(t *testing.T) {
	first := firstView(t, 1, 2, 3)
	b := New(1, first)
	b.Out()
	second := downOf(t, first, 3)
	b.Enter(second)
	for _, p := range b.Out() {
		if p.To != 2 || p.Seq != 2 {
			t.Errorf("in the second view: %+v", p)
		}
	}
	b.Enter(upOf(t, second, 3))
	for _, p := range b.Out() {
		if p.To == 2 && p.Seq != 3 || p.To == 3 && (p.Seq != 1 || p.ToLife != 2) {
			t.Errorf("in the third view: %+v", p)
		}
	}
	// 3 went and came again while it was not looked at.
	b = New(1, first)
	b.Out()
	b.Enter(upOf(t, second, 3))
	l := b.Out()
	if len(l) != 2 || l[0].To != 2 || l[0].Seq != 2 || l[1].To != 3 || l[1].Seq != 1 || l[1].ToLife != 2 {
		t.Errorf("a view later: %+v", l)
	}
	if w := b.Waits(); w != 3 {
		t.Errorf("%d wait", w)
	}
}

// Words: as an owner, MsgReg: the type is kept by the heirs, and then answered; who asks for it meanwhile waits.
func TestRegisters(t *testing.T) {
	v := firstView(t, 1, 2, 3, 4)
	s := play(t, 1, v)
	s.ready()
	s.forget()
	n := owned(t, v, 1, 0)
	heirs := s.b.otherHeirs(n)
	if len(heirs) != api.Replicas {
		t.Fatalf("the heirs %v", heirs)
	}
	by := id(heirs[0], 1, 1)
	s.say(heirs[0], api.Msg{Kind: api.MsgReg, Req: by, S: n, Own: []api.Field{intField("a")}})
	made := rootOf(t, n, by)
	for node := 2; node <= 4; node++ {
		if slices.Contains(heirs, node) {
			s.hears("a registration", node, api.Msg{Kind: api.MsgStore, T: []api.Type{made}})
		} else {
			s.hears("a registration", node)
		}
	}
	other := id(heirs[1], 1, 7)
	s.say(heirs[1], api.Msg{Kind: api.MsgReg, Req: other, S: strings.ToUpper(n)}, api.Msg{Kind: api.MsgAsk, Req: id(heirs[1], 1, 8), S: n})
	s.say(heirs[0], api.Msg{Kind: api.MsgStored, Req: by, S: n})
	s.say(heirs[1], api.Msg{Kind: api.MsgStored, Req: other, S: n}, api.Msg{Kind: api.MsgStored, Req: by, S: owned(t, v, 1, 1)})
	s.hears("one heir keeps it", heirs[0])
	s.hears("one heir keeps it", heirs[1])
	s.say(heirs[1], api.Msg{Kind: api.MsgStored, Req: by, S: strings.ToUpper(n)})
	s.hears("both keep it", heirs[0], api.Msg{Kind: api.MsgRegOK, Req: by, T: []api.Type{made}})
	s.hears("both keep it", heirs[1], api.Msg{Kind: api.MsgRegOK, Req: other, E: api.ErrThere}, api.Msg{Kind: api.MsgTell, Req: id(heirs[1], 1, 8), T: []api.Type{made}})
	s.say(heirs[0], api.Msg{Kind: api.MsgReg, Req: by, S: n})
	s.hears("the same request again", heirs[0], api.Msg{Kind: api.MsgRegOK, Req: by, T: []api.Type{made}})
}

// Words: as an owner, MsgReg of a type below another one, whose owner is asked for it.
func TestRegistersBelowAnOthersType(t *testing.T) {
	v := firstView(t, 1, 2)
	s := play(t, 1, v)
	s.ready()
	s.forget()
	parent := rootOf(t, owned(t, v, 2, 0), id(2, 1, 5))
	names := [4]string{}
	for i := range names {
		names[i] = owned(t, v, 1, i)
		s.say(2, api.Msg{Kind: api.MsgReg, Req: id(2, 1, 10+i), S: names[i], P: strings.ToUpper(parent.Name), Own: []api.Field{intField([]string{"a", "b", "b", "b"}[i])}})
		s.hears("a parent of another one", 2, api.Msg{Kind: api.MsgAsk, Req: id(1, 1, 1+i), S: strings.ToUpper(parent.Name)})
	}
	// While the parent of the last one is asked for, another one registers its name.
	s.say(2, api.Msg{Kind: api.MsgReg, Req: id(2, 1, 20), S: names[3]})
	made, _ := forest.Root(names[3], nil, id(2, 1, 20))
	s.hears("a root meanwhile", 2, api.Msg{Kind: api.MsgStore, T: []api.Type{made}})

	s.say(2, api.Msg{Kind: api.MsgTell, Req: id(1, 1, 1), T: []api.Type{parent}})
	s.hears("fields that clash", 2, api.Msg{Kind: api.MsgRegOK, Req: id(2, 1, 10), E: api.ErrClash})
	s.say(2, api.Msg{Kind: api.MsgTell, Req: id(1, 1, 2), E: api.ErrNone})
	s.hears("no parent", 2, api.Msg{Kind: api.MsgRegOK, Req: id(2, 1, 11), E: api.ErrNone})
	s.say(2, api.Msg{Kind: api.MsgTell, Req: id(1, 1, 3), T: []api.Type{parent}}, api.Msg{Kind: api.MsgTell, Req: id(1, 1, 4), T: []api.Type{parent}})
	below, _ := forest.Below(parent, names[2], []api.Field{intField("b")}, id(2, 1, 12))
	s.hears("a type below", 2, api.Msg{Kind: api.MsgStore, T: []api.Type{below}})
	s.say(2, api.Msg{Kind: api.MsgStored, Req: below.By, S: below.Name})
	s.hears("it is kept", 2, api.Msg{Kind: api.MsgRegOK, Req: below.By, T: []api.Type{below}})
	s.say(2, api.Msg{Kind: api.MsgStored, Req: made.By, S: made.Name})
	s.hears("the root is kept, too", 2, api.Msg{Kind: api.MsgRegOK, Req: id(2, 1, 13), E: api.ErrThere}, api.Msg{Kind: api.MsgRegOK, Req: made.By, T: []api.Type{made}})
}

// Words: a parent of its own that is not sure is waited for; no identity is made for it.
func TestRegistersBelowItsOwnType(t *testing.T) {
	v := firstView(t, 1, 2)
	s := play(t, 1, v)
	s.ready()
	s.forget()
	top, low := owned(t, v, 1, 0), owned(t, v, 1, 1)
	parent, _ := forest.Root(top, nil, id(2, 1, 1))
	s.say(2, api.Msg{Kind: api.MsgReg, Req: id(2, 1, 3), S: low, P: top})
	s.hears("without a parent", 2, api.Msg{Kind: api.MsgRegOK, Req: id(2, 1, 3), E: api.ErrNone})
	s.say(2, api.Msg{Kind: api.MsgReg, Req: id(2, 1, 4), S: low, P: low})
	s.hears("below itself", 2, api.Msg{Kind: api.MsgRegOK, Req: id(2, 1, 4), E: api.ErrNone})
	s.say(2, api.Msg{Kind: api.MsgReg, Req: parent.By, S: top}, api.Msg{Kind: api.MsgReg, Req: id(2, 1, 2), S: low, P: top})
	s.hears("the parent alone", 2, api.Msg{Kind: api.MsgStore, T: []api.Type{parent}})
	s.say(2, api.Msg{Kind: api.MsgStored, Req: parent.By, S: top})
	s.hears("the parent is sure", 2, api.Msg{Kind: api.MsgRegOK, Req: parent.By, T: []api.Type{parent}}, api.Msg{Kind: api.MsgStore, T: []api.Type{belowOf(t, parent, low, id(2, 1, 2))}})
	if x := s.b.newID(); x.Seq != 1 {
		t.Errorf("it made %d identities", x.Seq-1)
	}
}

// Words: as an owner, MsgReg: ErrFull if the store is full, behind the errors of the type.
func TestRegistersNoMoreThanItHasRoomFor(t *testing.T) {
	s := play(t, 1, firstView(t, 1))
	s.done(api.Call{Kind: api.CallOpen, N: 5})
	for i := range api.MaxTypes {
		s.calls(api.Call{Kind: api.CallReg, Session: 1, Name: "t" + strconv.Itoa(i), Own: []api.Field{intField("a")}})
	}
	for _, r := range s.b.Replies() {
		if r.E != api.OK {
			t.Fatalf("%+v", r)
		}
	}
	for _, x := range []struct {
		c    api.Call
		want api.Errno
	}{
		{api.Call{Name: "one-more"}, api.ErrFull},
		{api.Call{Name: "T7"}, api.ErrThere},
		{api.Call{Name: "one-more", Parent: "none"}, api.ErrNone},
		{api.Call{Name: "one-more", Parent: "t7", Own: []api.Field{intField("a")}}, api.ErrClash},
		{api.Call{Name: "one-more", Parent: "t7"}, api.ErrFull},
	} {
		x.c.Kind, x.c.Session = api.CallReg, 1
		ticket := s.calls(x.c)
		s.answers("of a full store", api.Reply{Ticket: ticket, Kind: api.CallReg, E: x.want})
	}
	if l := s.b.Types(); len(l) != api.MaxTypes {
		t.Errorf("it keeps %d", len(l))
	}
}

// Words: when it is ready, it lets the types that it owns be kept by their heirs; until then they are not sure.
func TestSpreadsItsTypesWhenItIsReady(t *testing.T) {
	v := firstView(t, 1, 2, 3)
	s := play(t, 1, v)
	s.forget()
	mine, others := rootOf(t, owned(t, v, 1, 0), id(2, 1, 4)), rootOf(t, owned(t, v, 2, 0), id(2, 1, 5))
	earlier := rootOf(t, mine.Name, id(1, 1, 9))
	s.say(2, api.Msg{Kind: api.MsgHave, T: []api.Type{mine, others}}, api.Msg{Kind: api.MsgReady}, api.Msg{Kind: api.MsgAsk, Req: id(2, 1, 6), S: mine.Name})
	s.say(3, api.Msg{Kind: api.MsgHave, T: []api.Type{earlier}}, api.Msg{Kind: api.MsgHave, T: []api.Type{rootOf(t, mine.Name, id(3, 1, 1))}})
	if l := s.b.Types(); len(l) != 2 || !slices.ContainsFunc(l, func(x api.Type) bool { return forest.Same(x, earlier) }) {
		t.Fatalf("it keeps %+v", l)
	}
	s.say(3, api.Msg{Kind: api.MsgReady})
	s.hears("ready", 2, api.Msg{Kind: api.MsgStore, T: []api.Type{earlier}})
	s.hears("ready", 3, api.Msg{Kind: api.MsgStore, T: []api.Type{earlier}})
	s.say(2, api.Msg{Kind: api.MsgStored, Req: earlier.By, S: mine.Name})
	s.hears("not sure yet", 2)
	s.say(3, api.Msg{Kind: api.MsgStored, Req: earlier.By, S: mine.Name})
	s.hears("sure", 2, api.Msg{Kind: api.MsgTell, Req: id(2, 1, 6), T: []api.Type{earlier}})
	s.say(2, api.Msg{Kind: api.MsgReady})
	s.hears("said twice", 2)
	// In another epoch nothing is sure any more.
	s.enter(api.View{Epoch: 2, L: v.L})
	if k, is := s.b.store.Find(mine.Name); !is || k.Sure {
		t.Fatalf("in another epoch: %+v", k)
	}
	s.ready()
	s.forget()
	s.say(2, api.Msg{Kind: api.MsgAsk, Req: id(2, 1, 7), S: mine.Name})
	s.hears("in another epoch", 2)
}

// Words: as an heir, it keeps what the owner says, whatever it kept, and says so; also, so that all comes to its end, if it has no room.
func TestKeepsWhatOwnersSay(t *testing.T) {
	v := firstView(t, 1, 2, 3)
	s := play(t, 1, v)
	n := owned(t, v, 2, 0)
	s.forget()
	early, late := rootOf(t, n, id(2, 1, 1)), rootOf(t, strings.ToUpper(n), id(3, 1, 1))
	for _, x := range []api.Type{early, late, late} {
		s.say(2, api.Msg{Kind: api.MsgStore, T: []api.Type{x}})
		s.hears("MsgStore", 2, api.Msg{Kind: api.MsgStored, Req: x.By, S: x.Name})
		if l := s.b.Types(); len(l) != 1 || !forest.Same(l[0], x) {
			t.Fatalf("it keeps %+v", l)
		}
	}
	for i := range api.MaxTypes {
		s.say(2, api.Msg{Kind: api.MsgStore, T: []api.Type{rootOf(t, "k"+strconv.Itoa(i), id(3, 1, 2+i))}})
	}
	if got := s.got[2]; len(got) != api.MaxTypes || len(s.b.Types()) != api.MaxTypes {
		t.Errorf("it keeps %d, and said so of %d", len(s.b.Types()), len(got))
	}
}

// Words: as an owner, MsgSubs: the newest row stands in the table, and each is answered.
func TestKnowsWhoWantsWhat(t *testing.T) {
	v := firstView(t, 1, 2, 3)
	s := play(t, 1, v)
	s.ready()
	s.forget()
	n := owned(t, v, 1, 0)
	f, g := parsed(t, "a = 1"), parsed(t, "a = 2")
	s.say(2, api.Msg{Kind: api.MsgSubs, S: n, Ver: 5, F: [][]api.Pred{f}}, api.Msg{Kind: api.MsgSubs, S: strings.ToUpper(n), Ver: 4, F: [][]api.Pred{g}})
	s.hears("wants", 2, api.Msg{Kind: api.MsgSubsOK, S: n, Ver: 5}, api.Msg{Kind: api.MsgSubsOK, S: strings.ToUpper(n), Ver: 4})
	s.say(3, api.Msg{Kind: api.MsgSubs, S: n, Ver: 1, F: [][]api.Pred{g, f}})
	rows := s.b.Wants(strings.ToUpper(n))
	if len(rows) != 2 || rows[0].Node != 2 || rows[0].Ver != 5 || !slices.EqualFunc(rows[0].F, [][]api.Pred{f}, filter.Same) || rows[1].Node != 3 || !slices.EqualFunc(rows[1].F, [][]api.Pred{g, f}, filter.Same) {
		t.Fatalf("Wants: %+v", rows)
	}
	// R3: the rows that are answered are not shared.
	rows[0].F[0][0] = api.Pred{}
	if rows := s.b.Wants(n); !filter.Same(rows[0].F[0], f) {
		t.Errorf("Wants: %+v", rows)
	}
	other := owned(t, v, 2, 0)
	s.say(3, api.Msg{Kind: api.MsgSubs, S: other, Ver: 2, F: [][]api.Pred{g}})
	for _, s2 := range []string{other, owned(t, v, 1, 1), "", "a..b"} {
		if rows := s.b.Wants(s2); rows != nil {
			t.Errorf("Wants(%q): %+v", s2, rows)
		}
	}
	s.enter(api.View{Epoch: 2, L: v.L})
	if rows := s.b.Wants(n); rows != nil {
		t.Errorf("Wants in another epoch: %+v", rows)
	}
}

// Words: as an owner, MsgPub: the event is given to all that want it; when all have it, the one that published it is told.
func TestGivesToAllThatWantIt(t *testing.T) {
	v := firstView(t, 1, 2, 3, 4)
	s := play(t, 1, v)
	s.ready()
	n := owned(t, v, 1, 0)
	s.say(2, api.Msg{Kind: api.MsgSubs, S: n, Ver: 1, F: [][]api.Pred{parsed(t, "a = 1")}})
	s.say(3, api.Msg{Kind: api.MsgSubs, S: n, Ver: 1, F: [][]api.Pred{parsed(t, "a = 2"), parsed(t, "a >= 1")}})
	s.say(4, api.Msg{Kind: api.MsgSubs, S: n, Ver: 1, F: [][]api.Pred{parsed(t, "a = 2")}})
	s.forget()
	x := api.Event{ID: id(4, 1, 7), Type: "below", Attrs: []api.Attr{intAttr("a", 1)}}
	s.say(4, api.Msg{Kind: api.MsgPub, S: n, X: x})
	s.hears("an event", 2, api.Msg{Kind: api.MsgGive, S: n, X: x})
	s.hears("an event", 3, api.Msg{Kind: api.MsgGive, S: n, X: x})
	s.hears("an event", 4)
	// Neither of these is what is waited for.
	s.say(2, api.Msg{Kind: api.MsgGot, Req: id(4, 1, 8), S: n}, api.Msg{Kind: api.MsgGot, Req: x.ID, S: owned(t, v, 1, 1)})
	s.say(4, api.Msg{Kind: api.MsgGot, Req: x.ID, S: n})
	s.say(3, api.Msg{Kind: api.MsgGot, Req: x.ID, S: strings.ToUpper(n)})
	s.hears("one has it", 4)
	s.say(2, api.Msg{Kind: api.MsgGot, Req: x.ID, S: n})
	s.hears("both have it", 4, api.Msg{Kind: api.MsgDone, Req: x.ID, S: n})
	s.say(2, api.Msg{Kind: api.MsgGot, Req: x.ID, S: n})
	s.hears("told once", 4)
	x.ID.Seq++
	x.Attrs = nil
	s.say(4, api.Msg{Kind: api.MsgPub, S: n, X: x})
	s.hears("what nobody wants", 4, api.Msg{Kind: api.MsgDone, Req: x.ID, S: n})
	// Events under way go with their epoch.
	x.ID.Seq++
	x.Attrs = []api.Attr{intAttr("a", 1)}
	s.say(4, api.Msg{Kind: api.MsgPub, S: n, X: x})
	s.enter(api.View{Epoch: 2, L: v.L})
	s.ready()
	s.forget()
	s.say(2, api.Msg{Kind: api.MsgGot, Req: x.ID, S: n})
	s.say(3, api.Msg{Kind: api.MsgGot, Req: x.ID, S: n})
	s.hears("of an earlier epoch", 4)
}

// Words: what is given to it, it delivers once, and says each time that it has it.
func TestDeliversOnce(t *testing.T) {
	v := firstView(t, 1, 2)
	s := play(t, 1, v)
	s.ready()
	s.done(api.Call{Kind: api.CallOpen, N: 5})
	n := owned(t, v, 2, 0)
	sub := s.subscribed(n, "a = 1")
	s.forget()
	x := api.Event{ID: id(2, 1, 7), Type: "below", Attrs: []api.Attr{intAttr("a", 1)}}
	y := api.Event{ID: id(2, 1, 8), Type: "below", Attrs: []api.Attr{intAttr("a", 2)}}
	for range 2 {
		s.say(2, api.Msg{Kind: api.MsgGive, S: n, X: x}, api.Msg{Kind: api.MsgGive, S: n, X: y})
		s.hears("MsgGive", 2, api.Msg{Kind: api.MsgGot, Req: x.ID, S: n}, api.Msg{Kind: api.MsgGot, Req: y.ID, S: n})
	}
	got := s.done(api.Call{Kind: api.CallPoll, Session: 1, N: 9})
	want := api.Reply{Ticket: got.Ticket, Kind: api.CallPoll, G: []api.Given{{Sub: sub, Of: n, X: x}}}
	if !sameReply(got, want) || got.G[0].X.ID != x.ID {
		t.Errorf("CallPoll: %+v", got)
	}
}
