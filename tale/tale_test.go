package tale

import (
	"fmt"
	"math/rand"
	"slices"
	"strings"
	"testing"

	"caduceus/api"
	"caduceus/event"
	"caduceus/hermes"
	"caduceus/name"
	"caduceus/view"
)

// play plays a script that can be played.
func play(t *testing.T, nodes []int, script string) string {
	t.Helper()
	s, e := Play(nodes, script)
	if e != api.OK {
		t.Fatalf("Play(%v, %q): %v", nodes, script, e)
	}
	return s
}

// Promise 23.2: what is told of deeds, of answers, of what is given, and of the end.
func TestPlay(t *testing.T) {
	for script, want := range map[string]string{
		"":                                    "up 1 epoch 1 types 0\n",
		"\n# call 1 open 5\n\n":               "up 1 epoch 1 types 0\n",
		"call 1 open 5\n":                     "1 ok ticket 1\n  1 1 ok 1\nup 1 epoch 1 types 0\n",
		"call 1 open 0\n#\ncall 1 open 5\n":   "1 ok ticket 1\n  1 1 error 1 0\n2 ok ticket 2\n  1 2 ok 1\nup 1 epoch 1 types 0\n",
		"call 2 open 5\ntick 2\n":             "1 error 12\n2 error 12\nup 1 epoch 1 types 0\n",
		"calm\ntick 1\ncome 1 2 0\nlearn 1\n": "1 ok\n2 ok\n3 error 4\n4 error 4\nup 1 epoch 1 types 0\n",
		"crash 1\n":                           "1 ok\nup 0 epoch 2 types 0\n",
		"crash 1\ncalm\ncall 1 open 5\n":      "1 ok\n2 ok\n3 error 12\nup 0 epoch 2 types 0\n",
		"crash 1\nrise 1\nrise 1\njoin 1 1\n": "1 ok\n2 ok\n3 error 5\n4 error 1\nup 1 epoch 3 types 0\n",
		"call 1 open 5\ncall 1 reg 1 A - -\n": "1 ok ticket 1\n  1 1 ok 1\n2 ok ticket 2\n  1 2 ok 0\nup 1 epoch 1 types 1\n",
		"call 1 open 5\ncall 1 reg 1 A B -\n": "1 ok ticket 1\n  1 1 ok 1\n2 ok ticket 2\n  1 2 error 4 0\nup 1 epoch 1 types 0\n",
		"call 1 open 5\ncrash 1\ncall 1 adv 1 A\nrise 1\ncall 1 close 1\n": "1 ok ticket 1\n  1 1 ok 1\n2 ok\n3 error 12\n4 ok\n5 ok ticket 1\n  1 1 error 4 0\nup 1 epoch 3 types 0\n",
	} {
		if got := play(t, []int{1}, script); got != want {
			t.Errorf("%q tells\n%s, not\n%s", script, got, want)
		}
	}
}

// Promise 23.2: a network of three, in which packets are late, a broker goes, and things are given.
func TestPlayOfThree(t *testing.T) {
	script := `# three brokers
calm
call 1 open 2
call 2 open 5
call 1 reg 1 News - a int, b text
call 1 reg 9 News - -
calm
call 2 sub 1 news a > 2
call 2 sub 1 NEWS has b
calm

call 1 adv 1 NEWS
call 1 pub 1 News a=1
call 1 pub 1 news a=3 b="x\ny"
apart 1 2
come 1 2 0
calm
call 2 poll 1 9
call 2 poll 1 9
call 2 over 1 1
crash 3
`
	want := `1 ok
2 ok ticket 1
  1 1 ok 1
3 ok ticket 1
  2 1 ok 1
4 ok ticket 2
5 ok ticket 3
  1 3 error 4 0
6 ok
  1 2 ok 0
7 ok ticket 2
8 ok ticket 3
9 ok
  2 2 ok 1
  2 3 ok 2
10 ok ticket 4
  1 4 ok 0
11 ok ticket 5
  1 5 ok 0
12 ok ticket 6
  1 6 ok 0
13 ok
14 error 4
15 ok
16 ok ticket 4
  2 4 ok 0
    1 News 1.1.4 News a=3 b="x\ny"
    2 News 1.1.4 News a=3 b="x\ny"
17 ok ticket 5
  2 5 ok 0
18 ok ticket 6
  2 6 ok 0
19 ok
up 2 epoch 2 types 1
`
	nodes := []int{1, 2, 3}
	if got := play(t, nodes, script); got != want {
		t.Errorf("it tells\n%s", got)
	}
	if !slices.Equal(nodes, []int{1, 2, 3}) {
		t.Errorf("the nodes are %v now", nodes)
	}
}

// ending is the last line of a tale.
func ending(s string) string {
	s = strings.TrimSuffix(s, "\n")
	return s[strings.LastIndex(s, "\n")+1:]
}

// Promise 23.2: a type that several brokers keep is one type, whether it is registered yet or not, and however calls write its name.
func TestPlayCountsTypesTogether(t *testing.T) {
	const open = "call 1 open 5\n"
	one := open + "call 1 reg 1 News - a int\n"
	// Node 3 owns News, as the first of 3, 2, 1: it is asked, and lets the others keep it.
	for i, x := range []struct {
		nodes  []int
		script string
		want   string
	}{
		{[]int{1, 2, 3}, open + "calm\n", "up 3 epoch 1 types 0"},
		{[]int{1}, one, "up 1 epoch 1 types 1"},
		{[]int{1, 2, 3}, "calm\n" + one, "up 3 epoch 1 types 0"},
		{[]int{1, 2, 3}, "calm\n" + one + "come 1 3 0\n", "up 3 epoch 1 types 1"},
		{[]int{1, 2, 3}, "calm\n" + one + "come 1 3 0\ncome 3 2 0\n", "up 3 epoch 1 types 1"},
		{[]int{1, 2, 3}, "calm\n" + one + "come 1 3 0\ncome 3 2 0\ncrash 3\n", "up 2 epoch 2 types 1"},
		{[]int{1, 2, 3}, "calm\n" + one + "come 1 3 0\ncrash 3\n", "up 2 epoch 2 types 0"},
		{[]int{1, 2}, one + "calm\n", "up 2 epoch 1 types 1"},
		{[]int{1, 2, 3}, one + "calm\n", "up 3 epoch 1 types 1"},
		{[]int{1, 2, 3, 4, 5}, one + "calm\n", "up 5 epoch 1 types 1"},
		{[]int{1, 2, 3}, one + "call 1 reg 1 NEWS - b text\ncalm\n", "up 3 epoch 1 types 1"},
		{[]int{1, 2, 3}, one + "calm\ncall 1 reg 1 news - -\ncalm\n", "up 3 epoch 1 types 1"},
		{[]int{1, 2, 3}, one + "call 1 reg 1 Sport - a int\ncalm\n", "up 3 epoch 1 types 2"},
		{[]int{1, 2, 3}, one + "calm\ncall 1 reg 1 News.Sport NEWS -\ncall 1 reg 1 Émile - -\ncall 1 reg 1 ÉMILE - -\ncalm\n", "up 3 epoch 1 types 3"},
		{[]int{1, 2, 3}, one + "calm\ncrash 2\n", "up 2 epoch 2 types 1"},
		{[]int{1, 2, 3}, one + "calm\ncrash 1\ncrash 2\n", "up 1 epoch 3 types 1"},
		{[]int{1, 2, 3}, one + "calm\ncrash 1\ncrash 2\nrise 1\nrise 2\ncalm\n", "up 3 epoch 5 types 1"},
		{[]int{1, 2, 3}, one + "calm\ncrash 1\ncrash 2\ncrash 3\n", "up 0 epoch 4 types 0"},
		{[]int{1, 2, 3}, one + "calm\ncrash 1\ncrash 2\ncrash 3\nrise 2\ncalm\n", "up 1 epoch 5 types 0"},
	} {
		if got := ending(play(t, x.nodes, x.script)); got != x.want {
			t.Errorf("%d: %q of nodes %v ends with %q, not %q", i, x.script, x.nodes, got, x.want)
		}
	}
}

// Promise 23.2: brokers that keep other types than each other count together: a type goes with the last one that keeps it.
func TestPlayCountsTypesOfAllBrokers(t *testing.T) {
	// The points of nodes 1 to 9, and those of 10 to 15, stand close together: these or those keep a type.
	nodes := []int{1, 2, 3, 10, 11, 12}
	names := []string{"News", "Sport", "NEWS.Sport", "Zoo", "Golf", "Émile", "Lottery", "A"}
	first, e := view.First(nodes)
	if e != api.OK {
		t.Fatalf("view.First(%v): %v", nodes, e)
	}
	script := "call 1 open 5\n"
	for _, x := range names {
		script += fmt.Sprintf("call 1 reg 1 %s - a int\n", x)
	}
	script += "calm\n"
	lost := 0
	for crashed := range 1 << len(nodes) {
		s := script
		var up []int
		for i, node := range nodes {
			if crashed>>i&1 == 0 {
				up = append(up, node)
			} else {
				s += fmt.Sprintf("crash %d\n", node)
			}
		}
		left := 0
		for _, x := range names {
			if slices.ContainsFunc(view.Heirs(first, x), func(node int) bool { return slices.Contains(up, node) }) {
				left++
			}
		}
		if left > 0 {
			lost += len(names) - left
		}
		want := fmt.Sprintf("up %d epoch %d types %d", len(up), 1+len(nodes)-len(up), left)
		if got := ending(play(t, nodes, s)); got != want {
			t.Errorf("with %v up it ends with %q, not %q", up, got, want)
		}
	}
	if lost == 0 {
		t.Error("no type went while others stayed")
	}
}

// Promise 23.2: types are told apart by their names alone, as names are the same.
func TestCountTypes(t *testing.T) {
	news := api.Type{Name: "News", By: api.ID{Node: 1, Life: 1, Seq: 1}, Chain: []string{"News"}}
	other := api.Type{Name: "NEWS", Parent: "A", By: api.ID{Node: 2, Life: 3, Seq: 4}, Chain: []string{"NEWS", "A"}}
	for i, x := range []struct {
		l    []api.Type
		want int
	}{
		{nil, 0},
		{[]api.Type{news}, 1},
		{[]api.Type{news, news, news}, 1},
		{[]api.Type{news, other}, 1},
		{[]api.Type{{Name: "Émile.x-1"}, {Name: "ÉMILE.X-1"}, {Name: "emile.x-1"}}, 2},
		{[]api.Type{{Name: "Ж"}, {Name: "A"}, {Name: "ж"}, {Name: "a"}, {Name: "b"}}, 3},
		{[]api.Type{news, {Name: "News.Sport"}, {Name: "Sport"}, {Name: "_News"}}, 4},
	} {
		before := slices.Clone(x.l)
		if got := countTypes(x.l); got != x.want {
			t.Errorf("%d: %d types, not %d", i, got, x.want)
		}
		if !slices.EqualFunc(before, x.l, func(a, b api.Type) bool { return a.Name == b.Name }) {
			t.Errorf("%d: the list was changed", i)
		}
	}
}

// Promise 23.2: what can't be played, by the error that is named first.
func TestPlayRefuses(t *testing.T) {
	full := strings.Repeat("#\n", MaxLines)
	for i, x := range []struct {
		nodes  []int
		script string
		want   api.Errno
	}{
		{nil, "", api.ErrArg}, {[]int{}, "x", api.ErrArg}, {[]int{2, 1}, full + full, api.ErrArg}, {[]int{0}, "", api.ErrArg}, {[]int{16}, "", api.ErrArg}, {[]int{1, 1}, "", api.ErrArg},
		{[]int{1}, full, api.OK}, {[]int{1}, full + "\n", api.ErrLong}, {[]int{1}, full + "#", api.ErrLong}, {[]int{1}, full + "calm\n", api.ErrLong}, {[]int{1}, strings.Repeat("\n", MaxLines+1), api.ErrLong}, {[]int{1}, strings.Repeat("x\n", MaxLines+1), api.ErrLong}, {[]int{1}, "x\n" + full, api.ErrLong},
		{[]int{1}, strings.Repeat("x\n", MaxLines), api.ErrForm}, {[]int{1}, full[2:] + "#", api.ErrForm}, {[]int{1}, full[2:] + "tick 1\n", api.OK}, {[]int{1}, full[2:] + "tick 1", api.ErrForm},
		{[]int{1}, "tick 1", api.ErrForm}, {[]int{1}, "#", api.ErrForm}, {[]int{1}, " ", api.ErrForm}, {[]int{1}, "tick 1\n ", api.ErrForm}, {[]int{1}, " \n", api.ErrForm}, {[]int{1}, " #\n", api.ErrForm}, {[]int{1}, "tick 1\r\n", api.ErrForm}, {[]int{1}, "tick 1 # why\n", api.ErrForm}, {[]int{1}, "tick 1\n\ntick\n", api.ErrForm}, {[]int{1}, "tick\ntick 1\n", api.ErrForm},
		{[]int{1}, "#\xff\x00\n", api.OK}, {[]int{1}, "\xff\n", api.ErrForm}, {[]int{1}, "\x00", api.ErrForm},
	} {
		s, e := Play(x.nodes, x.script)
		if e != x.want || (s == "") != (e != api.OK) {
			t.Errorf("%d: %v, %q tells %q, %v", i, x.nodes, x.script, s, e)
		}
	}
}

// told is what Play is to tell of deeds, done to a network as they stand.
func told(h *hermes.Hermes, deeds []api.Deed) string {
	var out strings.Builder
	outcome := func(e api.Errno) string {
		if e == api.OK {
			return "ok"
		}
		return fmt.Sprintf("error %d", e)
	}
	before := 0
	for i, d := range deeds {
		r, e := h.Do(d)
		fmt.Fprintf(&out, "%d %s", i+1, outcome(e))
		if d.Kind == api.DeedCall && e == api.OK {
			fmt.Fprintf(&out, " ticket %d", r.Ticket)
		}
		fmt.Fprintln(&out)
		facts := h.Facts()
		for ; before < len(facts); before++ {
			x := facts[before]
			if !x.IsR {
				continue
			}
			fmt.Fprintf(&out, "  %d %d %s %d\n", x.Node, x.R.Ticket, outcome(x.R.E), x.R.N)
			for _, g := range x.R.G {
				fmt.Fprintf(&out, "    %d %s %s\n", g.Sub, g.Of, event.Show(g.X))
			}
		}
	}
	fmt.Fprintf(&out, "up %d epoch %d types %d\n", len(view.Live(h.View())), h.View().Epoch, len(keptTogether(h)))
	return out.String()
}

// keptTogether is the types that all brokers keep, one of each name.
func keptTogether(h *hermes.Hermes) (l []api.Type) {
	for node := 1; node <= api.MaxNode; node++ {
		for _, x := range h.Broker(node).Types() {
			if !slices.ContainsFunc(l, func(y api.Type) bool { return name.Same(x.Name, y.Name) }) {
				l = append(l, x)
			}
		}
	}
	return l
}

// read is the deed of a line that has one.
func read(t *testing.T, line string) api.Deed {
	t.Helper()
	d, e := Read(line)
	if e != api.OK {
		t.Fatalf("Read(%q): %v", line, e)
	}
	return d
}

// beginning lets each node have a session that advertises types, and wants some events.
func beginning(t *testing.T, nodes []int) (l []api.Deed) {
	t.Helper()
	for _, node := range nodes {
		l = append(l, read(t, fmt.Sprintf("call %d open 20", node)))
	}
	for _, s := range []string{"call 1 reg 1 A - a int", "calm", "call 1 reg 1 B a -", "calm"} {
		l = append(l, read(t, s))
	}
	for _, node := range nodes {
		for _, s := range []string{"adv 1 a", "adv 1 B", "sub 1 A a > 1"} {
			l = append(l, read(t, fmt.Sprintf("call %d %s", node, s)))
		}
	}
	return append(l, read(t, "calm"))
}

// commonDeed is a deed that often can be done to nodes 1 to 4.
func commonDeed(r *rand.Rand, t *testing.T) api.Deed {
	node := 1 + r.Intn(4)
	return read(t, some(r,
		fmt.Sprintf("call %d open %d", node, r.Intn(20)), fmt.Sprintf("call %d reg 1 %s %s a int", node, some(r, "A", "B", "C"), some(r, "-", "-", "a")), fmt.Sprintf("call %d adv 1 %s", node, some(r, "a", "b")),
		fmt.Sprintf("call %d sub 1 %s %s", node, some(r, "a", "B"), some(r, "any", "a > 2", "has b")), fmt.Sprintf("call %d pub 1 %s a=%d", node, some(r, "A", "b"), r.Intn(5)), fmt.Sprintf("call %d pub 1 %s -", node, some(r, "A", "b")), fmt.Sprintf("call %d poll 1 %d", node, r.Intn(9)),
		fmt.Sprintf("call %d over 1 1", node), fmt.Sprintf("call %d unsub 1 %d", node, r.Intn(3)), fmt.Sprintf("come %d %d 0", node, 1+r.Intn(4)), fmt.Sprintf("come %d %d 1", node, 1+r.Intn(4)), fmt.Sprintf("lose %d %d 0", node, 1+r.Intn(4)), fmt.Sprintf("twice %d %d 0", node, 1+r.Intn(4)),
		fmt.Sprintf("tick %d", node), fmt.Sprintf("learn %d", node), "calm", "calm", fmt.Sprintf("%s %d %d", some(r, "apart", "join"), node, 1+r.Intn(4)), fmt.Sprintf("%s %d", some(r, "crash", "rise", "rise"), some(r, 4, 4, node))))
}

// Promise 23.3: what a script tells is what its deeds do.
func TestScriptsTellWhatDeedsDo(t *testing.T) {
	given := 0
	for seed := range int64(60) {
		r := rand.New(rand.NewSource(seed))
		nodes := []int{1, 2, 3, 4}[:1+r.Intn(4)]
		var script strings.Builder
		deeds := beginning(t, nodes)
		for range 20 + r.Intn(150) {
			deeds = append(deeds, commonDeed(r, t))
		}
		for _, d := range deeds {
			s, e := Show(d)
			if e != api.OK {
				t.Fatalf("Show(%+v): %v", d, e)
			}
			script.WriteString(some(r, "", "", "\n", "# "+s+"\n") + s + "\n")
		}
		want := told(hermes.New(nodes), deeds)
		s, e := Play(nodes, script.String())
		if e == api.ErrLong && strings.Count(script.String(), "\n") > MaxLines {
			continue
		}
		if e != api.OK || s != want {
			t.Fatalf("seed %d: %v,\n%s\ntells\n%s, not\n%s", seed, e, script.String(), s, want)
		}
		given += strings.Count(s, "\n    ")
		if again := play(t, nodes, script.String()); again != s {
			t.Fatalf("seed %d tells otherwise when it is played again", seed)
		}
	}
	if given < 50 {
		t.Errorf("only %d things were given", given)
	}
}
