package audit

import (
	"fmt"
	"math"
	"math/rand"
	"slices"
	"testing"

	"caduceus/api"
	"caduceus/forest"
	"caduceus/hermes"
	"caduceus/name"
	"caduceus/tale"
)

func some[T any](r *rand.Rand, l ...T) T { return l[r.Intn(len(l))] }

// does does a deed by its line.
func does(t *testing.T, h *hermes.Hermes, line string) api.Errno {
	t.Helper()
	d, e := tale.Read(line)
	if e != api.OK {
		t.Fatalf("Read(%q): %v", line, e)
	}
	_, e = h.Do(d)
	return e
}

// begun is a network in which A, B below it, and C are registered, and each node has two sessions that advertise and want them.
func begun(t *testing.T, r *rand.Rand, nodes []int) *hermes.Hermes {
	t.Helper()
	h := hermes.New(nodes)
	lines := []string{"call 1 open 9", "call 1 reg 1 A - a int", "calm", "call 1 reg 1 B a b text", "call 1 reg 1 C - -", "calm", "call 1 close 1"}
	for _, line := range lines {
		does(t, h, line)
	}
	for _, node := range nodes {
		opens(t, h, r, node)
	}
	does(t, h, "calm")
	return h
}

// opens lets two more sessions be opened at a node.
func opens(t *testing.T, h *hermes.Hermes, r *rand.Rand, node int) {
	t.Helper()
	for range 2 {
		r1, e := h.Do(api.Deed{Kind: api.DeedCall, Node: node, C: api.Call{Kind: api.CallOpen, N: 1 + r.Intn(40)}})
		if e != api.OK {
			t.Fatalf("CallOpen: %v", e)
		}
		for _, s := range []string{"adv %d a", "adv %d B", "adv %d C", "sub %d A any", "sub %d A a > 2", "sub %d b has b", "sub %d C any"} {
			does(t, h, fmt.Sprintf("call %d ", node)+fmt.Sprintf(s, r1.N))
		}
	}
}

// someLine is a line of something that happens in a network of nodes 1 to 4; brokers crash, if they may.
func someLine(r *rand.Rand, crash bool) string {
	node, to := 1+r.Intn(4), 1+r.Intn(4)
	call := fmt.Sprintf("call %d ", node)
	session := 1 + r.Intn(4)
	if crash && r.Intn(12) == 0 {
		return fmt.Sprintf("%s %d", some(r, "crash", "rise", "learn"), node)
	}
	switch r.Intn(12) {
	case 0:
		return call + fmt.Sprintf("sub %d %s %s", session, some(r, "A", "b", "c", "none"), some(r, "any", "a = 3", "has a", "a > 2", `b = "x"`))
	case 1:
		return call + fmt.Sprintf("unsub %d %d", session, 1+r.Intn(9))
	case 2, 3, 4:
		return call + fmt.Sprintf("pub %d %s", session, some(r, "A a=1", "a A=3", `B a=4 b="x"`, "b -", "C -", "c -", "none -"))
	case 5, 6:
		return call + fmt.Sprintf("poll %d %d", session, r.Intn(9))
	case 7:
		return call + some(r, "open 5", "close 1", "adv 2 A", "withdraw 1 B", "reg 1 D b -", "reg 2 a - -", "reg 1 E none -", "over 1 1")
	case 8:
		return some(r, "calm", "tick 1", "tick 2", "tick 3", fmt.Sprintf("apart %d %d", node, to), fmt.Sprintf("join %d %d", node, to))
	}
	return fmt.Sprintf("%s %d %d %d", some(r, "come", "come", "come", "come", "lose", "twice"), node, to, r.Intn(2))
}

// run is what came of random deeds.
func run(t *testing.T, seed int64, crash bool) ([]api.Fact, []api.Type) {
	t.Helper()
	r := rand.New(rand.NewSource(seed))
	h := begun(t, r, []int{1, 2, 3, 4}[:1+r.Intn(4)])
	for range 300 {
		line := someLine(r, crash)
		if e := does(t, h, line); e == api.OK && line[:4] == "rise" {
			var node int
			fmt.Sscanf(line, "rise %d", &node)
			opens(t, h, r, node)
		}
	}
	h.Calm()
	for node := 1; node <= 4; node++ {
		for session := 1; session <= 6; session++ {
			does(t, h, fmt.Sprintf("call %d poll %d 100", node, session))
		}
	}
	return h.Facts(), keptTypes(h)
}

// keptTypes are the types that brokers keep.
func keptTypes(h *hermes.Hermes) (l []api.Type) {
	for node := 1; node <= api.MaxNode; node++ {
		for _, x := range h.Broker(node).Types() {
			if _, is := forest.Find(l, x.Name); !is {
				l = append(l, x)
			}
		}
	}
	return l
}

// Promise 24.3: what a network tells has no finding; and 24.2 of it.
func TestNetworksAreRight(t *testing.T) {
	things := 0
	for seed := range int64(100) {
		crash := seed%2 == 1
		facts, types := run(t, seed, crash)
		if crash {
			// So many may crash at once that a type is gone, and another one of its name is registered.
			types = nil
		}
		if got := Check(facts, types); got != nil {
			t.Fatalf("seed %d: %v", seed, got)
		}
		counted(t, facts)
		things += Given(facts)
	}
	if things < 2000 {
		t.Errorf("only %d things were given", things)
	}
}

// counted holds what audit counts against facts of a network, whose calls are answered at most once.
func counted(t *testing.T, l []api.Fact) {
	t.Helper()
	type key struct{ node, life, ticket int }
	asked := map[key]api.Call{}
	var calls, answered, failed, things, pubs int
	var names []string
	for _, x := range l {
		k := key{x.Node, x.Life, x.R.Ticket}
		if !x.IsR {
			calls++
			asked[k] = x.C
			continue
		}
		answered++
		things += len(x.R.G)
		switch {
		case x.R.E != api.OK:
			failed++
		case x.R.Kind == api.CallPub:
			pubs++
		case x.R.Kind == api.CallReg:
			names = append(names, name.Fold(asked[k].Name))
		}
	}
	if a, b, c := Calls(l); a != calls || b != answered || c != failed || Given(l) != things || len(Published(l)) != pubs || !slices.Equal(Names(l), names) {
		t.Fatalf("Calls: %d, %d, %d; Given: %d; Published: %d; Names: %q", a, b, c, Given(l), len(Published(l)), Names(l))
	}
}

// copyOf is facts whose things can be changed.
func copyOf(l []api.Fact) []api.Fact {
	out := slices.Clone(l)
	for i := range out {
		out[i].R.G = slices.Clone(out[i].R.G)
		for k := range out[i].R.G {
			out[i].R.G[k].X.Attrs = slices.Clone(out[i].R.G[k].X.Attrs)
		}
	}
	return out
}

// turns are what can become of a thing that was given, with the reason that is found.
func turns(r *rand.Rand) (func(g *api.Given), int) {
	switch r.Intn(8) {
	case 0:
		return func(g *api.Given) { g.X.ID.Seq += 1000 }, api.WhyPub
	case 1:
		return func(g *api.Given) { g.X.ID.Life += 1000 }, api.WhyPub
	case 2:
		return func(g *api.Given) { g.X.Type += "x" }, api.WhySame
	case 3:
		return func(g *api.Given) {
			g.X.Attrs = append(g.X.Attrs, api.Attr{Name: "zz", V: api.Value{Kind: api.KindInt}})
		}, api.WhySame
	case 4:
		return func(g *api.Given) { g.Of += "x" }, api.WhySub
	case 5:
		return func(g *api.Given) {
			for i := range g.X.Attrs {
				g.X.Attrs[i].V = api.Value{Kind: api.KindBytes, S: "turned"}
			}
			if g.X.Attrs == nil {
				g.X.Type = "turned"
			}
		}, api.WhySame
	case 6:
		return func(g *api.Given) { g.X.Type = "" }, api.WhySame
	}
	return func(g *api.Given) { g.Of = "" }, api.WhySub
}

// Promise 24.3: an answer told twice has a finding; so has one event that is turned, or is given once more.
func TestTurnedFactsAreFound(t *testing.T) {
	r := rand.New(rand.NewSource(24))
	for seed := range int64(10) {
		facts, types := run(t, seed, false)
		var given, answers []int
		for i, x := range facts {
			if x.IsR {
				answers = append(answers, i)
			}
			if len(x.R.G) > 0 {
				given = append(given, i)
			}
		}
		for range 30 {
			i := some(r, given...)
			g := r.Intn(len(facts[i].R.G))
			l := copyOf(facts)
			turn, why := turns(r)
			turn(&l[i].R.G[g])
			finds(t, "turned", l, types, api.Finding{At: i, G: g, Why: why})

			l = copyOf(facts)
			l[i].R.G = append(l[i].R.G, l[i].R.G[g])
			finds(t, "given once more", l, types, api.Finding{At: i, G: len(l[i].R.G) - 1, Why: api.WhyTwice})

			i = some(r, answers...)
			l = slices.Insert(copyOf(facts), i+1, facts[i])
			want := []api.Finding{{At: i + 1, G: -1, Why: api.WhyAgain}}
			for g := range facts[i].R.G {
				want = append(want, api.Finding{At: i + 1, G: g, Why: api.WhyTwice})
			}
			finds(t, "told twice", l, types, want...)

			lost := slices.IndexFunc(facts[:i], func(x api.Fact) bool {
				return !x.IsR && x.Node == facts[i].Node && x.Life == facts[i].Life && x.R.Ticket == facts[i].R.Ticket
			})
			l = slices.Delete(copyOf(facts), lost, lost+1)
			if got := Check(l, types); !slices.Contains(got, api.Finding{At: i - 1, G: -1, Why: api.WhyCall}) {
				t.Fatalf("without a call: %v", got)
			}
		}
	}
}

// R1: any facts are answered, and none are changed.
func TestAnyFacts(t *testing.T) {
	r := rand.New(rand.NewSource(1))
	number := func() int { return some(r, 0, 1, 2, 3, -1, math.MaxInt, math.MinInt) }
	title := func() string { return some(r, "a", "A", "", "\xff", "a..b") }
	event := func() api.Event {
		return api.Event{ID: api.ID{Node: r.Intn(2), Life: r.Intn(2), Seq: r.Intn(2)}, Type: title(), Attrs: some(r, nil, num(1), num(3), make([]api.Attr, 30))}
	}
	for range 3000 {
		var l []api.Fact
		for range r.Intn(20) {
			x := api.Fact{Node: r.Intn(2), Life: r.Intn(2), IsR: r.Intn(2) == 0, C: api.Call{Kind: some(r, api.CallSub, api.CallPub, api.CallReg, number()), Name: title(), F: some(r, nil, []api.Pred{{}}, parsed(t, "a > 2")), Attrs: event().Attrs}}
			x.R = api.Reply{Ticket: r.Intn(3), Kind: some(r, x.C.Kind, api.CallPoll, number()), E: api.Errno(some(r, 0, 0, number())), N: number(), ID: event().ID}
			for range r.Intn(4) {
				x.R.G = append(x.R.G, api.Given{Sub: number(), Of: title(), X: event()})
			}
			l = append(l, x)
		}
		types := make([]api.Type, r.Intn(3))
		got := Check(l, types)
		for i, x := range got {
			before := api.Finding{At: -1, G: -1}
			if i > 0 {
				before = got[i-1]
			}
			rises := x.At > before.At || x.At == before.At && (x.G > before.G || x.G == -1 && before.G == -1 && x.Why == api.WhyAgain && before.Why == api.WhyCall)
			own := x.Why == api.WhyCall || x.Why == api.WhyAgain
			if !rises || !l[x.At].IsR || x.G >= len(l[x.At].R.G) || own != (x.G == -1) || x.Why > api.WhyTwice {
				t.Fatalf("findings %v", got)
			}
		}
		if calls, answered, failed := Calls(l); calls < answered || answered < failed || len(Names(l)) > answered-failed || len(Published(l)) > len(l)-calls {
			t.Fatalf("Calls: %d, %d, %d", calls, answered, failed)
		}
	}
}
