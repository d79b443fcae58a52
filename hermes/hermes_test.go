package hermes

import (
	"math"
	"math/rand"
	"slices"
	"strconv"
	"testing"

	"caduceus/api"
	"caduceus/broker"
	"caduceus/view"
)

func firstView(t *testing.T, nodes ...int) api.View {
	t.Helper()
	v, e := view.First(nodes)
	if e != api.OK {
		t.Fatal(e)
	}
	return v
}

// wrongNodes are numbers that are no node of a network of at most 9.
var wrongNodes = []int{0, -1, 10, 15, 16, 17, math.MinInt, math.MaxInt}

func deedCall(node int, c api.Call) api.Deed {
	return api.Deed{Kind: api.DeedCall, Node: node, C: c}
}

// The example of the chapter.
func TestExample(t *testing.T) {
	w := newWatch(t, 1, 2, 3)
	w.over(1, api.Call{Kind: api.CallOpen, N: 5})
	w.over(2, api.Call{Kind: api.CallOpen, N: 5})
	if r := w.over(1, api.Call{Kind: api.CallReg, Session: 1, Name: "News"}); r.E != api.OK {
		t.Fatalf("CallReg: %+v", r)
	}
	w.over(1, api.Call{Kind: api.CallAdv, Session: 1, Name: "News"})
	w.over(2, api.Call{Kind: api.CallSub, Session: 1, Name: "News"})
	w.over(1, api.Call{Kind: api.CallPub, Session: 1, Name: "News"})
	if r := w.over(2, api.Call{Kind: api.CallPoll, Session: 1, N: 9}); len(r.G) != 1 || r.G[0].Of != "News" || r.G[0].X.ID.Node != 1 {
		t.Fatalf("CallPoll: %+v", r)
	}
	w.must(api.Deed{Kind: api.DeedCrash, Node: 3})
	w.calm()
	w.over(1, api.Call{Kind: api.CallPub, Session: 1, Name: "News"})
	if r := w.over(2, api.Call{Kind: api.CallPoll, Session: 1, N: 9}); len(r.G) != 1 {
		t.Fatalf("CallPoll behind a crash: %+v", r)
	}
	w.check()
}

// Promise 22.1: New.
func TestNew(t *testing.T) {
	for _, wrong := range [][]int{nil, {}, {0}, {-1}, {16}, {1, 1}, {2, 1}, {1, 2, 16}, {0, 1}, {math.MinInt}, {math.MaxInt}, make([]int, 100)} {
		if New(wrong) != nil {
			t.Errorf("a network of %v", wrong)
		}
	}
	nodes := []int{2, 3, 15}
	h := New(nodes)
	nodes[0] = 9
	v := firstView(t, 2, 3, 15)
	if !sameView(h.View(), v) || len(h.Facts()) != 0 || h.Idle() {
		t.Fatalf("the view %+v, the facts %+v", h.View(), h.Facts())
	}
	for node := -1; node <= 17; node++ {
		b := h.Broker(node)
		if is := slices.Contains([]int{2, 3, 15}, node); is != (b != nil) || is && !sameView(b.View(), v) {
			t.Errorf("the broker %d: %+v", node, b)
		}
	}
	// Each has something to say to each other one.
	hops := []api.Hop{{From: 2, To: 3}, {From: 2, To: 15}, {From: 3, To: 2}, {From: 3, To: 15}, {From: 15, To: 2}, {From: 15, To: 3}}
	if l := h.Hops(); !slices.Equal(l, hops) || h.Way() != 6 {
		t.Errorf("the hops %+v, %d packets", l, h.Way())
	}
	if h := New([]int{7}); !h.Idle() || h.Way() != 0 || h.Hops() != nil {
		t.Errorf("one alone is not idle")
	}
}

// Promise 22.1: DeedCall: facts of the call, and of the answer when it comes.
func TestCalls(t *testing.T) {
	h := New([]int{1, 2, 3})
	h.Calm()
	var want []api.Fact
	hold := func(what string) {
		t.Helper()
		if l := h.Facts(); !slices.EqualFunc(l, want, sameFact) {
			t.Fatalf("%s: the facts %+v, not %+v", what, l, want)
		}
	}
	call := func(node, ticket int, c api.Call, answer *api.Reply) {
		t.Helper()
		r, e := h.Do(deedCall(node, c))
		want = append(want, api.Fact{Node: node, Life: 1, C: c, R: api.Reply{Ticket: ticket, Kind: c.Kind}})
		reply := api.Reply{Ticket: ticket, Kind: c.Kind}
		if answer != nil {
			reply = *answer
			want = append(want, api.Fact{Node: node, Life: 1, IsR: true, R: reply})
		}
		if e != api.OK || !sameReply(r, reply) {
			t.Fatalf("%+v: %+v, %v", c, r, e)
		}
		hold("behind a call")
	}
	call(1, 1, api.Call{Kind: api.CallOpen, N: 5}, &api.Reply{Ticket: 1, Kind: api.CallOpen, N: 1})
	call(1, 2, api.Call{Kind: 99, Name: "x"}, &api.Reply{Ticket: 2, Kind: 99, E: api.ErrArg})
	call(1, 3, api.Call{Kind: api.CallOpen, N: 5}, &api.Reply{Ticket: 3, Kind: api.CallOpen, N: 2})
	call(2, 1, api.Call{Kind: api.CallClose, Session: 1}, &api.Reply{Ticket: 1, Kind: api.CallClose, E: api.ErrNone})
	call(1, 4, api.Call{Kind: api.CallReg, Session: 1, Name: "News", Own: []api.Field{intField("a")}}, nil)
	call(1, 5, api.Call{Kind: api.CallReg, Session: 3, Name: "News"}, &api.Reply{Ticket: 5, Kind: api.CallReg, E: api.ErrNone})
	h.Calm()
	want = append(want, api.Fact{Node: 1, Life: 1, IsR: true, R: api.Reply{Ticket: 4, Kind: api.CallReg}})
	hold("behind a calm")
	for _, node := range append([]int{4}, wrongNodes...) {
		if r, e := h.Do(deedCall(node, api.Call{Kind: api.CallOpen, N: 5})); e != api.ErrDown || !sameReply(r, api.Reply{}) {
			t.Errorf("a call at %d: %+v, %v", node, r, e)
		}
	}
	h.Do(api.Deed{Kind: api.DeedCrash, Node: 2})
	if r, e := h.Do(deedCall(2, api.Call{Kind: api.CallOpen, N: 5})); e != api.ErrDown || !sameReply(r, api.Reply{}) {
		t.Errorf("a call at one that is down: %+v, %v", r, e)
	}
	hold("at nodes that are not up")
}

// Promise 22.1: an answer that comes with the call, but is not done by it, is told behind it; one alone has its life in its facts.
func TestAnswersOfOneAlone(t *testing.T) {
	h := New([]int{4})
	for _, kind := range []int{api.DeedCrash, api.DeedRise, api.DeedCrash, api.DeedRise} {
		if _, e := h.Do(api.Deed{Kind: kind, Node: 4}); e != api.OK {
			t.Fatal(e)
		}
	}
	h.Do(deedCall(4, api.Call{Kind: api.CallOpen, N: 5}))
	r, _ := h.Do(deedCall(4, api.Call{Kind: api.CallReg, Session: 1, Name: "News"}))
	l := h.Facts()
	if len(l) != 4 || r.Ticket != 2 || l[2].IsR || !l[3].IsR || l[3].R.Ticket != 2 || l[3].R.E != api.OK {
		t.Fatalf("%+v, and the facts %+v", r, l)
	}
	for _, x := range l {
		if x.Node != 4 || x.Life != 3 {
			t.Errorf("the fact %+v", x)
		}
	}
}

// Promise 22.1: DeedCome, DeedLose and DeedTwice.
func TestPackets(t *testing.T) {
	kinds := []int{api.DeedCome, api.DeedLose, api.DeedTwice}
	h := New([]int{1, 2, 3})
	count := h.Way()
	for _, kind := range kinds {
		for _, x := range []struct {
			node, to, i int
			want        api.Errno
		}{{1, 1, 0, api.ErrArg}, {0, 1, 0, api.ErrArg}, {1, 16, 0, api.ErrArg}, {-1, 2, 0, api.ErrArg}, {math.MaxInt, 1, 0, api.ErrArg}, {1, 2, 1, api.ErrNone}, {1, 2, -1, api.ErrNone}, {1, 2, math.MaxInt, api.ErrNone}, {1, 9, 0, api.ErrNone}, {8, 9, 0, api.ErrNone}} {
			if _, e := h.Do(api.Deed{Kind: kind, Node: x.node, To: x.to, I: x.i}); e != x.want || h.Way() != count {
				t.Errorf("deed %d of %+v: %v", kind, x, e)
			}
		}
	}
	one := api.Hop{From: 1, To: 2}
	do := func(kind, i int, want api.Errno, left int) {
		t.Helper()
		if _, e := h.Do(api.Deed{Kind: kind, Node: 1, To: 2, I: i}); e != want || h.Len(one) != left {
			t.Fatalf("deed %d of packet %d: %v, %d are left", kind, i, e, h.Len(one))
		}
	}
	do(api.DeedTwice, 0, api.OK, 2)
	do(api.DeedTwice, 1, api.OK, 3)
	do(api.DeedLose, 1, api.OK, 2)
	h.Do(api.Deed{Kind: api.DeedApart, Node: 2, To: 1, On: true})
	do(api.DeedCome, 2, api.ErrNone, 2)
	do(api.DeedCome, 1, api.ErrDown, 2)
	if slices.Contains(h.Hops(), one) || h.Way() != 7 {
		t.Errorf("they are apart: %+v, %d packets", h.Hops(), h.Way())
	}
	h.Do(api.Deed{Kind: api.DeedApart, Node: 1, To: 2})
	back := h.Len(api.Hop{From: 2, To: 1})
	do(api.DeedCome, 1, api.OK, 1)
	if got := h.Len(api.Hop{From: 2, To: 1}); got != back+1 {
		t.Errorf("%d packets go back, not %d", got, back+1)
	}
	// What 2 heard is not heard again, but acknowledged again.
	do(api.DeedCome, 0, api.OK, 0)
	if got := h.Len(api.Hop{From: 2, To: 1}); got != back+2 {
		t.Errorf("%d packets go back, not %d", got, back+2)
	}
}

// Promise 22.1: what comes to a node that is down is lost; what went to its earlier life changes nothing in the next one.
func TestPacketsToWhoIsDown(t *testing.T) {
	h := New([]int{1, 2})
	h.Do(api.Deed{Kind: api.DeedTwice, Node: 1, To: 2})
	h.Do(api.Deed{Kind: api.DeedCrash, Node: 2})
	one := api.Hop{From: 1, To: 2}
	if h.Len(one) != 2 {
		t.Fatalf("%d packets are under way to one that is down", h.Len(one))
	}
	if _, e := h.Do(api.Deed{Kind: api.DeedCome, Node: 1, To: 2}); e != api.OK || h.Len(one) != 1 {
		t.Errorf("to one that is down: %v, %d are left", e, h.Len(one))
	}
	h.Do(api.Deed{Kind: api.DeedRise, Node: 2})
	back := h.Len(api.Hop{From: 2, To: 1})
	if _, e := h.Do(api.Deed{Kind: api.DeedCome, Node: 1, To: 2}); e != api.OK || h.Len(api.Hop{From: 2, To: 1}) != back || h.Broker(2).Ready() {
		t.Errorf("to another life: %v, and 2 is ready: %v", e, h.Broker(2).Ready())
	}
}

// Promise 22.1: DeedTick.
func TestTick(t *testing.T) {
	h := New([]int{1, 2, 3})
	for _, node := range append([]int{4}, wrongNodes...) {
		if _, e := h.Do(api.Deed{Kind: api.DeedTick, Node: node}); e != api.ErrDown {
			t.Errorf("a tick at %d: %v", node, e)
		}
	}
	if h.Way() != 6 {
		t.Errorf("%d packets", h.Way())
	}
	if _, e := h.Do(api.Deed{Kind: api.DeedTick, Node: 3}); e != api.OK || h.Way() != 8 || h.Len(api.Hop{From: 3, To: 1}) != 2 || h.Len(api.Hop{From: 3, To: 2}) != 2 {
		t.Errorf("a tick: %v, %d packets", e, h.Way())
	}
	h.Do(api.Deed{Kind: api.DeedCrash, Node: 3})
	if _, e := h.Do(api.Deed{Kind: api.DeedTick, Node: 3}); e != api.ErrDown || h.Way() != 8 {
		t.Errorf("a tick at one that is down: %v, %d packets", e, h.Way())
	}
}

// Promises 22.1 and 22.5: DeedCrash and DeedRise.
func TestCrashAndRise(t *testing.T) {
	h := New([]int{1, 2, 3})
	h.Calm()
	h.Do(deedCall(2, api.Call{Kind: api.CallOpen, N: 5}))
	v := firstView(t, 1, 2, 3)
	do := func(kind, node int, want api.Errno) {
		t.Helper()
		next, e := view.Down(v, node)
		if kind == api.DeedRise {
			next, e = view.Up(v, node)
		}
		if e == api.OK {
			v = next
		}
		if _, got := h.Do(api.Deed{Kind: kind, Node: node}); got != want || got != e || !sameView(h.View(), v) {
			t.Fatalf("deed %d at %d: %v, the view %+v", kind, node, got, h.View())
		}
	}
	for _, node := range append([]int{4}, wrongNodes...) {
		do(api.DeedCrash, node, api.ErrNone)
		do(api.DeedRise, node, api.ErrNone)
	}
	do(api.DeedRise, 2, api.ErrThere)
	do(api.DeedCrash, 2, api.OK)
	if h.Broker(2) != nil {
		t.Errorf("the broker is there")
	}
	do(api.DeedCrash, 2, api.ErrDown)
	do(api.DeedRise, 2, api.OK)
	b := h.Broker(2)
	if b == nil || !sameView(b.View(), v) || b.Ready() || b.Sessions().IsOpen(1) {
		t.Fatalf("what came up is %+v", b)
	}
	if h.Broker(1).View().Epoch != 1 || h.Broker(3).View().Epoch != 1 {
		t.Errorf("the others learned of it")
	}
	r, _ := h.Do(deedCall(2, api.Call{Kind: api.CallOpen, N: 5}))
	l := h.Facts()
	if r.Ticket != 1 || r.N != 1 || l[len(l)-1].Life != 2 || l[0].Life != 1 {
		t.Errorf("it begins with %+v, and the facts are %+v", r, l)
	}
	for node := 1; node <= 3; node++ {
		do(api.DeedCrash, node, api.OK)
	}
	if len(view.Live(h.View())) != 0 || !h.Idle() {
		t.Errorf("all are down")
	}
	if rounds, done := h.Calm(); rounds != 2 || !done {
		t.Errorf("none is up, and behind %d rounds calm: %v", rounds, done)
	}
	do(api.DeedRise, 3, api.OK)
	if !h.Broker(3).Ready() || view.Life(h.View(), 3) != 2 {
		t.Errorf("one alone comes up")
	}
}

// Promise 22.1: DeedLearn: one view behind the other.
func TestLearn(t *testing.T) {
	h := New([]int{1, 2, 3})
	learn := func(node int, want api.Errno) {
		t.Helper()
		if _, e := h.Do(api.Deed{Kind: api.DeedLearn, Node: node}); e != want {
			t.Fatalf("%d learns: %v", node, e)
		}
	}
	for _, node := range append([]int{4}, wrongNodes...) {
		learn(node, api.ErrDown)
	}
	learn(1, api.ErrNone)
	v := []api.View{h.View()}
	for _, d := range []api.Deed{{Kind: api.DeedCrash, Node: 2}, {Kind: api.DeedRise, Node: 2}, {Kind: api.DeedCrash, Node: 3}} {
		h.Do(d)
		v = append(v, h.View())
	}
	learn(3, api.ErrDown)
	for epoch := 2; epoch <= 4; epoch++ {
		if h.Idle() {
			t.Errorf("idle ahead of epoch %d", epoch)
		}
		learn(1, api.OK)
		if got := h.Broker(1).View(); !sameView(got, v[epoch-1]) {
			t.Fatalf("1 learned of %+v, not %+v", got, v[epoch-1])
		}
	}
	learn(1, api.ErrNone)
	learn(2, api.OK)
	learn(2, api.ErrNone)
	if !sameView(h.Broker(2).View(), v[3]) {
		t.Errorf("2 learned of %+v", h.Broker(2).View())
	}
}

// Promise 22.1: DeedApart, and that nobody is apart when all is calm.
func TestApart(t *testing.T) {
	h := New([]int{1, 2, 3})
	for _, x := range []api.Deed{{Node: 1, To: 1}, {Node: 0, To: 1}, {Node: 1, To: 16}, {Node: -1, To: math.MaxInt}} {
		x.Kind, x.On = api.DeedApart, true
		if _, e := h.Do(x); e != api.ErrArg {
			t.Errorf("%+v: %v", x, e)
		}
	}
	for _, x := range []api.Hop{{From: 1, To: 3}, {From: 2, To: 1}, {From: 14, To: 15}} {
		if _, e := h.Do(api.Deed{Kind: api.DeedApart, Node: x.From, To: x.To, On: true}); e != api.OK {
			t.Errorf("%+v: %v", x, e)
		}
	}
	if l := h.Hops(); !slices.Equal(l, []api.Hop{{From: 2, To: 3}, {From: 3, To: 2}}) {
		t.Errorf("the hops %+v", l)
	}
	if _, done := h.Calm(); !done || !h.Idle() {
		t.Fatalf("no calm")
	}
	h.Do(deedCall(1, api.Call{Kind: api.CallOpen, N: 5}))
	h.Do(api.Deed{Kind: api.DeedCrash, Node: 2})
	h.Do(api.Deed{Kind: api.DeedRise, Node: 2})
	h.Do(api.Deed{Kind: api.DeedLearn, Node: 1})
	h.Do(api.Deed{Kind: api.DeedLearn, Node: 1})
	h.Do(api.Deed{Kind: api.DeedLearn, Node: 3})
	h.Do(api.Deed{Kind: api.DeedLearn, Node: 3})
	if len(h.Hops()) != 6 {
		t.Errorf("apart behind a calm: %+v", h.Hops())
	}
}

// Promise 22.1: Calm: rounds, until all were idle behind two of them.
func TestCalm(t *testing.T) {
	h := New([]int{1, 2, 3})
	if rounds, done := h.Calm(); rounds != 2 || !done {
		t.Fatalf("at first: %d rounds, %v", rounds, done)
	}
	if rounds, done := h.Calm(); rounds != 2 || !done || h.Way() != 0 {
		t.Fatalf("again: %d rounds, %v, %d packets", rounds, done, h.Way())
	}
	for _, d := range []api.Deed{{Kind: api.DeedCrash, Node: 1}, {Kind: api.DeedCrash, Node: 2}, {Kind: api.DeedRise, Node: 1}} {
		h.Do(d)
	}
	if h.Idle() {
		t.Errorf("idle in an old view")
	}
	if _, e := h.Do(api.Deed{Kind: api.DeedCalm, Node: 99, I: -7}); e != api.OK || !h.Idle() {
		t.Fatalf("DeedCalm: %v", e)
	}
	for _, node := range []int{1, 3} {
		if !sameView(h.Broker(node).View(), h.View()) || !h.Broker(node).Idle() {
			t.Errorf("%d has the view %+v", node, h.Broker(node).View())
		}
	}
}

// Promise 22.1: Idle: not as long as one has not the newest view, though nothing waits.
func TestIdle(t *testing.T) {
	h := New([]int{1, 2, 3})
	if h.Idle() {
		t.Errorf("idle at first")
	}
	h.Calm()
	if !h.Idle() {
		t.Errorf("not idle behind a calm")
	}
	h.Do(api.Deed{Kind: api.DeedCrash, Node: 3})
	for node := 1; node <= 2; node++ {
		if !h.Broker(node).Idle() || h.Idle() {
			t.Errorf("%d is idle: %v, all are: %v", node, h.Broker(node).Idle(), h.Idle())
		}
		h.Do(api.Deed{Kind: api.DeedLearn, Node: node})
	}
	if h.Idle() {
		t.Errorf("idle, though nobody said anything in this epoch")
	}
	h.Calm()
	if !h.Idle() {
		t.Errorf("not idle behind a calm")
	}
	h.Do(deedCall(1, api.Call{Kind: api.CallOpen, N: 5}))
	if !h.Idle() {
		t.Errorf("not idle behind a call that was done")
	}
	h.Do(deedCall(1, api.Call{Kind: api.CallAdv, Session: 1, Name: "News"}))
	h.Do(deedCall(1, api.Call{Kind: api.CallAdv, Session: 1, Name: someNames[0]}))
	if h.Idle() {
		t.Errorf("idle, though an answer is outstanding")
	}
}

// Promise 22.1: Calm: the two rounds behind which all are idle stand in a row, and are the last ones.
func TestRoundsInARow(t *testing.T) {
	busy := func() *Hermes {
		h := New([]int{1, 2, 3, 4, 5, 6})
		h.Calm()
		for node := 1; node <= 6; node++ {
			h.Do(deedCall(node, api.Call{Kind: api.CallOpen, N: 5}))
			for i := range broker.MaxAsks {
				h.Do(deedCall(node, api.Call{Kind: api.CallReg, Session: 1, Name: someNames[(node+i)%len(someNames)]}))
			}
			h.Do(api.Deed{Kind: api.DeedTick, Node: node})
		}
		for h.Way() < api.MaxWay {
			x := h.Hops()[0]
			h.Do(api.Deed{Kind: api.DeedTwice, Node: x.From, To: x.To})
		}
		// What is said anew has no room, at first.
		h.Do(api.Deed{Kind: api.DeedCrash, Node: 6})
		return h
	}
	byHand := busy()
	byHand.enterNewest()
	var idle []bool
	for last := 0; last < 2; {
		byHand.round()
		idle = append(idle, byHand.allIdle())
		last++
		if !byHand.allIdle() {
			last = 0
		}
	}
	rounds, done := busy().Calm()
	if !done || rounds != len(idle) || !slices.Contains(idle, false) {
		t.Fatalf("%d rounds, %v; by hand all were idle: %v", rounds, done, idle)
	}
}

// Promise 22.1: Calm ends, also if all does not come to its end: behind as many rounds as there may be.
func TestCalmEnds(t *testing.T) {
	h := New([]int{1, 2})
	h.Calm()
	// A broker that waits for one that is not there: no deed brings that about.
	v := firstView(t, 1, 9)
	v.Epoch = 2
	h.brokers[1].Enter(v)
	for range 3 {
		waits := h.brokers[1].Waits()
		if rounds, done := h.Calm(); rounds != MostRounds+4*waits || done || waits == 0 {
			t.Fatalf("%d rounds, %v, %d waits", rounds, done, waits)
		}
		h.Do(deedCall(1, api.Call{Kind: api.CallOpen, N: 5}))
		h.Do(deedCall(1, api.Call{Kind: api.CallReg, Session: 1, Name: "News"}))
	}
	if _, e := h.Do(api.Deed{Kind: api.DeedCalm}); e != api.ErrDown {
		t.Errorf("DeedCalm: %v", e)
	}
}

// R2: what is refused changes nothing, also right at the beginning.
func TestRefusedDeedsChangeNothing(t *testing.T) {
	h := New([]int{1, 2, 3})
	refused := []api.Deed{{}, {Kind: 99}, {Kind: -1}, {Kind: math.MinInt}, {Kind: 11, Node: 1, To: 2}, {Kind: api.DeedCall, Node: 9}, {Kind: api.DeedCome, Node: 1, To: 2, I: 100}, {Kind: api.DeedLose, Node: 1, To: 1}, {Kind: api.DeedTwice, Node: 1, To: 2, I: -1}, {Kind: api.DeedTick, Node: 9}, {Kind: api.DeedCrash, Node: 9}, {Kind: api.DeedRise, Node: 1}, {Kind: api.DeedLearn, Node: 1}, {Kind: api.DeedApart, Node: 1, To: 1}}
	for range 2 {
		hops, facts, v, idle := h.Hops(), h.Facts(), h.View(), h.Idle()
		var rows []int
		for _, x := range hops {
			rows = append(rows, h.Len(x))
		}
		for _, d := range refused {
			r, e := h.Do(d)
			if e == api.OK || !sameReply(r, api.Reply{}) {
				t.Fatalf("%+v: %+v, %v", d, r, e)
			}
			for i, x := range hops {
				if h.Len(x) != rows[i] {
					t.Fatalf("%+v: %d packets of %+v", d, h.Len(x), x)
				}
			}
			if !slices.Equal(h.Hops(), hops) || !slices.EqualFunc(h.Facts(), facts, sameFact) || !sameView(h.View(), v) || h.Idle() != idle {
				t.Fatalf("%+v changed something", d)
			}
		}
		h.Calm()
		h.Do(deedCall(1, api.Call{Kind: api.CallOpen, N: 5}))
	}
}

// R3: neither what is handed in nor what is answered is shared with what is kept.
func TestNothingIsShared(t *testing.T) {
	h := New([]int{1})
	own := []api.Field{intField("a"), intField("b")}
	f := []api.Pred{{Name: "a", Op: api.OpIn, L: []api.Value{{Kind: api.KindInt, N: 1}, {Kind: api.KindInt, N: 2}}}}
	attrs := []api.Attr{intAttr("a", 1), intAttr("b", 2)}
	calls := func() []api.Call {
		return []api.Call{
			{Kind: api.CallOpen, N: 5},
			{Kind: api.CallReg, Session: 1, Name: "News", Own: slices.Clone(own)},
			{Kind: api.CallAdv, Session: 1, Name: "News"},
			{Kind: api.CallSub, Session: 1, Name: "News", F: []api.Pred{{Name: "a", Op: api.OpIn, L: slices.Clone(f[0].L)}}},
			{Kind: api.CallPub, Session: 1, Name: "News", Attrs: slices.Clone(attrs)},
			{Kind: api.CallPoll, Session: 1, N: 9},
		}
	}
	for _, c := range calls() {
		r, e := h.Do(deedCall(1, c))
		if e != api.OK || r.E != api.OK {
			t.Fatalf("%+v: %+v, %v", c, r, e)
		}
		clear(c.Own)
		clear(c.Attrs)
		if len(c.F) > 0 {
			clear(c.F[0].L)
		}
		clear(c.F)
		if len(r.G) > 0 {
			clear(r.G[0].X.Attrs)
		}
		clear(r.G)
	}
	for range 2 {
		l := h.Facts()
		want := calls()
		for _, x := range l {
			if !x.IsR && !sameCall(x.C, want[x.R.Ticket-1]) {
				t.Fatalf("the call %+v, not %+v", x.C, want[x.R.Ticket-1])
			}
			clear(x.C.Own)
			clear(x.C.Attrs)
			if len(x.C.F) > 0 {
				clear(x.C.F[0].L)
			}
			clear(x.C.F)
		}
		last := l[len(l)-1].R
		if len(last.G) != 1 || !slices.Equal(last.G[0].X.Attrs, attrs) {
			t.Fatalf("the last answer is %+v", last)
		}
		clear(last.G[0].X.Attrs)
		clear(last.G)
		clear(l)
		v := h.View()
		clear(v.L)
		if !sameView(h.View(), firstView(t, 1)) {
			t.Fatalf("the view is %+v", h.View())
		}
	}
}

// Promise 22.1: no network.
func TestNil(t *testing.T) {
	var h *Hermes
	for kind := -1; kind <= 12; kind++ {
		if r, e := h.Do(api.Deed{Kind: kind, Node: 1, To: 2}); e != api.ErrArg || !sameReply(r, api.Reply{}) {
			t.Errorf("deed %d: %+v, %v", kind, r, e)
		}
	}
	if rounds, done := h.Calm(); rounds != 0 || done {
		t.Errorf("Calm: %d, %v", rounds, done)
	}
	if h.Facts() != nil || h.Broker(1) != nil || !sameView(h.View(), api.View{}) || h.Hops() != nil || h.Len(api.Hop{From: 1, To: 2}) != 0 || h.Way() != 0 || h.Idle() {
		t.Errorf("no network answers something")
	}
}

// R1: no deed panics, and all comes to its end behind any.
func TestAnyDeeds(t *testing.T) {
	for seed := range 30 {
		r := rand.New(rand.NewSource(int64(seed)))
		w := newWatch(t, 1, 2, 4)
		number := func() int {
			if r.Intn(20) == 0 {
				return []int{math.MinInt, math.MaxInt, -1, 16, 15}[r.Intn(5)]
			}
			return r.Intn(6)
		}
		for range 400 {
			d := api.Deed{Kind: r.Intn(12), Node: number(), To: number(), I: number(), On: r.Intn(8) == 0, C: wrongCall(r, t)}
			if d.Kind == api.DeedCalm && r.Intn(4) > 0 {
				d.Kind = api.DeedCall
			}
			w.do(d)
		}
		w.calm()
		w.check()
	}
}

// Promise 22.6: no more packets are under way than may be; what has no room is lost, and comes to its end all the same.
func TestWayIsFull(t *testing.T) {
	w := newWatch(t, 1, 2, 3, 4)
	w.calm()
	for node := 1; node <= 4; node++ {
		w.call(node, api.Call{Kind: api.CallOpen, N: 100})
	}
	at := w.call(1, api.Call{Kind: api.CallReg, Session: 1, Name: someNames[0]})
	x := w.h.Hops()[0]
	for i := range api.MaxWay + 3 {
		d := api.Deed{Kind: api.DeedTwice, Node: x.From, To: x.To, I: i % 2}
		want := api.OK
		if w.h.Way() == api.MaxWay {
			want = api.ErrFull
		}
		if _, e := w.do(d); e != want {
			t.Fatalf("packet %d: %v, %d are under way", i, e, w.h.Way())
		}
	}
	for i := range 20 {
		w.call(1+i%4, api.Call{Kind: api.CallReg, Session: 1, Name: "t" + strconv.Itoa(i)})
	}
	w.must(api.Deed{Kind: api.DeedTick, Node: 1})
	if w.h.Way() != api.MaxWay {
		t.Fatalf("%d packets are under way", w.h.Way())
	}
	w.calm()
	w.check()
	if r := w.answers[at]; r.E != api.OK || len(w.kept()) != 21 {
		t.Errorf("%+v, and %d types are kept", r, len(w.kept()))
	}
}

// Promise 22.6: no more answers and events wait than may; what is beyond is an error, and has changed nothing.
func TestWhatWaits(t *testing.T) {
	w := newWatch(t, 1, 2)
	w.over(1, api.Call{Kind: api.CallOpen, N: 100})
	for i, n := range someNames[:2] {
		if r := w.over(1, api.Call{Kind: api.CallReg, Session: 1, Name: n, Parent: []string{"", someNames[0]}[i]}); r.E != api.OK {
			t.Fatalf("CallReg: %+v", r)
		}
	}
	w.over(1, api.Call{Kind: api.CallAdv, Session: 1, Name: someNames[1]})
	w.over(1, api.Call{Kind: api.CallSub, Session: 1, Name: someNames[0]})
	w.must(api.Deed{Kind: api.DeedApart, Node: 1, To: 2, On: true})
	for i := range broker.MaxPubs + 2 {
		r := w.answers[w.call(1, api.Call{Kind: api.CallPub, Session: 1, Name: someNames[1]})]
		if (r.E == api.OK) != (i < broker.MaxPubs) || r.E != api.OK && r.E != api.ErrFull {
			t.Fatalf("event %d: %+v", i, r)
		}
	}
	for i := range broker.MaxAsks + 2 {
		r, is := w.answers[w.call(1, api.Call{Kind: api.CallReg, Session: 1, Name: "t" + strconv.Itoa(i)})]
		if is == (i < broker.MaxAsks) || is && r.E != api.ErrFull {
			t.Fatalf("registration %d: %+v, answered: %v", i, r, is)
		}
	}
	w.calm()
	w.check()
	if r := w.over(1, api.Call{Kind: api.CallPoll, Session: 1, N: 100}); len(r.G) < broker.MaxPubs {
		t.Errorf("%d events came", len(r.G))
	}
}

// allNodes are as many nodes as there may be.
func allNodes() (l []int) {
	for node := 1; node <= api.MaxNode; node++ {
		l = append(l, node)
	}
	return l
}

// Promise 22.6: all comes to its end also with as many brokers as there may be, when all is to be said anew.
func TestManyBrokers(t *testing.T) {
	nodes := allNodes()
	w := newWatch(t, nodes...)
	w.calm()
	for _, node := range nodes {
		w.call(node, api.Call{Kind: api.CallOpen, N: 100})
	}
	title := func(i int) string { return "t" + strconv.Itoa(i) }
	for i := range 150 {
		w.call(nodes[i%len(nodes)], api.Call{Kind: api.CallReg, Session: 1, Name: title(i), Own: []api.Field{intField("a")}})
	}
	w.calm()
	for i := range 150 {
		w.call(nodes[i%len(nodes)], api.Call{Kind: api.CallSub, Session: 1, Name: title(149 - i)})
		w.call(nodes[i%len(nodes)], api.Call{Kind: api.CallAdv, Session: 1, Name: title(i)})
	}
	w.calm()
	for i := range 150 {
		w.call(nodes[i%len(nodes)], api.Call{Kind: api.CallPub, Session: 1, Name: title(i), Attrs: []api.Attr{intAttr("a", i)}})
	}
	for _, node := range []int{3, 7, 12} {
		w.must(api.Deed{Kind: api.DeedCrash, Node: node})
		w.calm()
		w.check()
		w.must(api.Deed{Kind: api.DeedRise, Node: node})
	}
	w.calm()
	w.check()
	if len(w.regs) != 150 || len(w.kept()) != 150 || len(w.pubs) != 150 {
		t.Errorf("%d types were registered, %d are kept, %d events were published", len(w.regs), len(w.kept()), len(w.pubs))
	}
}
