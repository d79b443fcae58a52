package view

import (
	"hash/fnv"
	"math"
	"math/rand"
	"slices"
	"strconv"
	"testing"

	"caduceus/api"
	"caduceus/name"
	"caduceus/quic"
	"caduceus/ring"
)

// mostCount is the bytes of api.MaxCount as a number.
const mostCount = "\xc0\x00\x00\xff\xff\xff\xff\xff"

func member(node, life int, up bool) api.Member {
	return api.Member{Node: node, Life: life, Up: up}
}

func viewOf(epoch int, l ...api.Member) api.View { return api.View{Epoch: epoch, L: l} }

func same(a, b api.View) bool { return a.Epoch == b.Epoch && slices.Equal(a.L, b.L) }

func isZero(v api.View) bool { return v.Epoch == 0 && v.L == nil }

func copyOf(v api.View) api.View { return api.View{Epoch: v.Epoch, L: slices.Clone(v.L)} }

// subset: the nodes whose bits are set, 1 by the lowest one.
func subset(bits int) (l []int) {
	for n := range api.MaxNode {
		if bits>>n&1 == 1 {
			l = append(l, n+1)
		}
	}
	return l
}

// allNodes: a view that has as many members as there may be.
func allNodes() api.View {
	v := api.View{Epoch: 7}
	for n := range api.MaxNode {
		v.L = append(v.L, member(n+1, 3+n, n%3 != 0))
	}
	return v
}

// views: some that may be, by their bytes.
func views() map[string]api.View {
	out := map[string]api.View{
		"\x01\x01\x01\x01\x01":                         viewOf(1, member(1, 1, true)),
		"\x01\x01\x01\x01\x00":                         viewOf(1, member(1, 1, false)),
		"\x01\x01\x0f\x01\x01":                         viewOf(1, member(15, 1, true)),
		"\x03\x03\x01\x01\x01\x02\x02\x01\x03\x01\x01": viewOf(3, member(1, 1, true), member(2, 2, true), member(3, 1, true)),
		"\x02\x03\x01\x01\x01\x02\x01\x00\x03\x01\x01": viewOf(2, member(1, 1, true), member(2, 1, false), member(3, 1, true)),
		"\x05\x02\x04\x02\x00\x09\x03\x00":             viewOf(5, member(4, 2, false), member(9, 3, false)),
		mostCount + "\x01\x08" + mostCount + "\x01":    viewOf(api.MaxCount, member(8, api.MaxCount, true)),
		"\x41\x2c\x02\x02\x40\x40\x01\x0e\x3f\x00":     viewOf(300, member(2, 64, true), member(14, 63, false)),
	}
	all := "\x07\x0f"
	for i := range byte(15) {
		up := byte(1)
		if i%3 == 0 {
			up = 0
		}
		all += string([]byte{i + 1, i + 3, up})
	}
	out[all] = allNodes()
	return out
}

// wrongViews: what may not be views.
func wrongViews() []api.View {
	one := member(1, 1, true)
	out := []api.View{
		{},
		viewOf(1),
		{Epoch: 1, L: []api.Member{}},
		viewOf(1, member(2, 1, true), one),
		viewOf(1, one, one),
		viewOf(1, one, member(1, 2, false)),
		viewOf(1, member(1, 1, true), member(3, 1, true), member(2, 1, true)),
		viewOf(1, member(1, 1, true), member(2, 1, true), member(2, 1, true)),
		viewOf(1, one, member(api.MaxNode+1, 1, true)),
		viewOf(1, one, api.Member{}),
		viewOf(1, append(allNodes().L, member(16, 1, true))...),
		viewOf(1, append(allNodes().L, allNodes().L...)...),
		viewOf(1, slices.Repeat([]api.Member{one}, 100000)...),
	}
	for _, epoch := range []int{0, -1, api.MaxCount + 1, math.MaxInt, math.MinInt} {
		out = append(out, viewOf(epoch, one), viewOf(1, member(1, epoch, true)), viewOf(1, member(1, epoch, false)), viewOf(1, one, member(2, epoch, true)), viewOf(1, member(1, epoch, true), member(2, 1, true)))
	}
	for _, node := range []int{0, -1, api.MaxNode + 1, math.MaxInt, math.MinInt} {
		out = append(out, viewOf(1, member(node, 1, true)), viewOf(1, member(node, 1, false)))
	}
	return out
}

// anyView: one that may be, of nodes by their bits.
func anyView(r *rand.Rand, bits int) api.View {
	v := api.View{Epoch: 1 + r.Intn(9)}
	for _, n := range subset(bits) {
		v.L = append(v.L, member(n, 1+r.Intn(3), r.Intn(3) > 0))
	}
	return v
}

// Promise 14.1: Check.
func TestCheck(t *testing.T) {
	for _, v := range views() {
		if !Check(v) {
			t.Errorf("%v may be", v)
		}
	}
	for _, v := range wrongViews() {
		if Check(v) {
			t.Errorf("epoch %d, %d members: may not be", v.Epoch, len(v.L))
		}
	}
}

// Promise 14.1: First.
func TestFirst(t *testing.T) {
	for bits := 1; bits < 1<<api.MaxNode; bits += 1 + bits/200 {
		l := subset(bits)
		v, e := First(l)
		if e != api.OK || v.Epoch != 1 || len(v.L) != len(l) || !Check(v) || !slices.Equal(Live(v), l) {
			t.Fatalf("First(%v): %v, %v", l, v, e)
		}
		for i, m := range v.L {
			if m != member(l[i], 1, true) {
				t.Fatalf("First(%v): %v", l, v)
			}
		}
	}
	wrong := [][]int{nil, {}, {0}, {-1}, {api.MaxNode + 1}, {2, 1}, {1, 1}, {1, 2, 2}, {1, 3, 2}, {0, 1}, {1, 16}, {math.MaxInt}, {math.MinInt, 1}, append(subset(1<<15-1), 16), append(subset(1<<15-1), 15)}
	for _, l := range wrong {
		if v, e := First(l); e != api.ErrArg || !isZero(v) {
			t.Errorf("First(%v): %v, %v", l, v, e)
		}
	}
}

// stepOf goes by the words of the chapter: down or up.
func stepOf(v api.View, node int, up bool) (api.View, api.Errno) {
	at := -1
	for i, m := range v.L {
		if m.Node == node {
			at = i
		}
	}
	switch {
	case at < 0:
		return api.View{}, api.ErrNone
	case up && v.L[at].Up:
		return api.View{}, api.ErrThere
	case !up && !v.L[at].Up:
		return api.View{}, api.ErrDown
	case v.Epoch == api.MaxCount, up && v.L[at].Life == api.MaxCount:
		return api.View{}, api.ErrMuch
	}
	out := copyOf(v)
	out.Epoch++
	if out.L[at].Up = up; up {
		out.L[at].Life++
	}
	return out, api.OK
}

// steps holds Down and Up of a view against the words.
func steps(t *testing.T, v api.View, node int) {
	t.Helper()
	before := copyOf(v)
	for _, up := range []bool{false, true} {
		step := Down
		if up {
			step = Up
		}
		got, e := step(v, node)
		want, wantE := stepOf(v, node, up)
		if e != wantE || !same(got, want) || e != api.OK && got.L != nil {
			t.Errorf("%v, %d, up %v: %v, %v; not %v, %v", v, node, up, got, e, want, wantE)
		}
		for i := range got.L {
			got.L[i] = api.Member{}
		}
		if !same(v, before) {
			t.Fatalf("%v is changed to %v", before, v)
		}
	}
}

// Promise 14.1: Down and Up.
func TestSteps(t *testing.T) {
	nodes := []int{math.MinInt, -1, math.MaxInt}
	for n := range api.MaxNode + 3 {
		nodes = append(nodes, n)
	}
	for _, v := range views() {
		for _, node := range nodes {
			steps(t, v, node)
		}
	}
	r := rand.New(rand.NewSource(14))
	for range 300 {
		v := anyView(r, 1+r.Intn(1<<api.MaxNode-1))
		for _, node := range nodes {
			steps(t, v, node)
		}
	}
	for _, v := range wrongViews() {
		for _, node := range []int{0, 1, 2, 15, 16, math.MinInt} {
			down, e := Down(v, node)
			up, eUp := Up(v, node)
			if e != api.ErrArg || eUp != api.ErrArg || !isZero(down) || !isZero(up) {
				t.Errorf("epoch %d, %d members, %d: %v, %v", v.Epoch, len(v.L), node, e, eUp)
			}
		}
	}
}

// Promise 14.1: epochs and lives end; and which error comes ahead then.
func TestMuch(t *testing.T) {
	last := viewOf(api.MaxCount, member(1, 1, true), member(2, 1, false), member(3, api.MaxCount, false))
	old := viewOf(api.MaxCount-1, member(1, api.MaxCount, true), member(2, api.MaxCount-1, false), member(3, api.MaxCount, false))
	for i, x := range []struct {
		step func(api.View, int) (api.View, api.Errno)
		v    api.View
		node int
		e    api.Errno
	}{
		{Down, last, 1, api.ErrMuch}, {Down, last, 2, api.ErrDown}, {Down, last, 3, api.ErrDown}, {Down, last, 4, api.ErrNone},
		{Up, last, 1, api.ErrThere}, {Up, last, 2, api.ErrMuch}, {Up, last, 3, api.ErrMuch}, {Up, last, 0, api.ErrNone},
		{Down, old, 1, api.OK}, {Down, old, 3, api.ErrDown}, {Up, old, 1, api.ErrThere}, {Up, old, 2, api.OK}, {Up, old, 3, api.ErrMuch},
	} {
		v, e := x.step(x.v, x.node)
		if e != x.e || (e != api.OK) != isZero(v) || e == api.OK && (v.Epoch != api.MaxCount || !Check(v)) {
			t.Errorf("%d: %v, %v; not %v", i, v, e, x.e)
		}
	}
}

// Promise 14.2: Live, Life, IsUp.
func TestMembers(t *testing.T) {
	r := rand.New(rand.NewSource(142))
	l := []api.View{allNodes()}
	for _, v := range views() {
		l = append(l, v)
	}
	for range 300 {
		l = append(l, anyView(r, 1+r.Intn(1<<api.MaxNode-1)))
	}
	for _, v := range l {
		var lives [api.MaxNode + 3]int
		var up [api.MaxNode + 3]bool
		var live []int
		for _, m := range v.L {
			lives[m.Node], up[m.Node] = m.Life, m.Up
			if m.Up {
				live = append(live, m.Node)
			}
		}
		if !slices.Equal(Live(v), live) {
			t.Fatalf("Live(%v): %v", v, Live(v))
		}
		for node := range lives {
			if Life(v, node) != lives[node] || IsUp(v, node) != up[node] {
				t.Fatalf("%v, %d: life %d, up %v", v, node, Life(v, node), IsUp(v, node))
			}
		}
		for _, node := range []int{-1, -15, math.MinInt, math.MaxInt} {
			if Life(v, node) != 0 || IsUp(v, node) {
				t.Fatalf("%v, %d: life %d, up %v", v, node, Life(v, node), IsUp(v, node))
			}
		}
	}
}

// Promise 14.2: of a view that may not be there is nothing.
func TestWrongViews(t *testing.T) {
	good := viewOf(1, member(1, 1, true), member(2, 1, true))
	for _, v := range wrongViews() {
		if Live(v) != nil || Heirs(v, "News") != nil || Gone(v, good) != nil || Gone(good, v) != nil || Gone(v, v) != nil || Text(v) != "" {
			t.Errorf("epoch %d, %d members: %v, %v, %v, %v, %x", v.Epoch, len(v.L), Live(v), Heirs(v, "News"), Gone(v, good), Gone(good, v), Text(v))
		}
		if owner, is := Owner(v, "News"); owner != 0 || is {
			t.Errorf("epoch %d, %d members: owner %d, %v", v.Epoch, len(v.L), owner, is)
		}
		for _, node := range []int{0, 1, 2, 3, 15, 16, -1} {
			if Life(v, node) != 0 || IsUp(v, node) {
				t.Errorf("epoch %d, %d members: life %d, up %v", v.Epoch, len(v.L), Life(v, node), IsUp(v, node))
			}
		}
	}
}

// heirsOf looks for the heirs of a name without a ring: each time the one whose point is the nearest at or behind the key.
func heirsOf(s string, live []int) (heirs []int) {
	hash := func(s string) uint64 {
		h := fnv.New64a()
		h.Write([]byte(s))
		return h.Sum64()
	}
	key, left := hash(name.Fold(s)), slices.Clone(live)
	for len(left) > 0 && len(heirs) < 3 {
		far := func(n int) uint64 { return hash("node "+strconv.Itoa(n)) - key }
		best := slices.MinFunc(left, func(a, b int) int {
			if far(a) < far(b) {
				return -1
			}
			return 1
		})
		heirs = append(heirs, best)
		left = slices.DeleteFunc(left, func(n int) bool { return n == best })
	}
	return heirs
}

// keeps holds Owner and Heirs of a view against another way to find them.
func keeps(t *testing.T, v api.View, s string) {
	t.Helper()
	want := heirsOf(s, Live(v))
	owner, is := Owner(v, s)
	if heirs := Heirs(v, s); !slices.Equal(heirs, want) {
		t.Fatalf("Heirs(%v, %q): %v, not %v", v, s, heirs, want)
	}
	if is != (len(want) > 0) || is && owner != want[0] || !is && owner != 0 {
		t.Fatalf("Owner(%v, %q): %d, %v; heirs %v", v, s, owner, is, want)
	}
	if keeper, kept := ring.Keeper(s, Live(v)); owner != keeper || is != kept {
		t.Fatalf("Owner(%v, %q): %d, %v; keeper %d", v, s, owner, is, keeper)
	}
}

// texts: names, and what is none.
func texts() []string {
	out := []string{"", "News", "NEWS", "news", "Émile.x-1", "ÉMILE.X-1", "no name", "\xff", "News.Sport", "a..b"}
	for i := range 20 {
		out = append(out, "t"+strconv.Itoa(i))
	}
	return out
}

// Promise 14.2: Owner and Heirs, of any text.
func TestKeepers(t *testing.T) {
	r := rand.New(rand.NewSource(143))
	for round := range 300 {
		v := anyView(r, 1+r.Intn(1<<api.MaxNode-1))
		if round%5 == 0 {
			v = anyView(r, 1<<r.Intn(api.MaxNode)|1<<r.Intn(api.MaxNode))
		}
		for _, s := range texts() {
			keeps(t, v, s)
		}
	}
	for n := 1; n <= 5; n++ {
		v, _ := First(subset(1<<n - 1))
		if heirs := Heirs(v, "News"); len(heirs) != min(n, 3) {
			t.Errorf("%d are up: heirs %v", n, heirs)
		}
	}
	down := viewOf(4, member(1, 2, false), member(7, 1, false))
	if owner, is := Owner(down, "News"); owner != 0 || is || Heirs(down, "News") != nil {
		t.Errorf("nobody is up: %d, %v", owner, is)
	}
}

// Promise 14.2: Gone.
func TestGone(t *testing.T) {
	a := viewOf(5, member(1, 1, true), member(2, 2, true), member(3, 1, false), member(4, 1, true), member(5, 3, true), member(6, 2, true))
	b := viewOf(2, member(1, 1, true), member(2, 2, false), member(3, 1, true), member(5, 4, true), member(6, 1, true), member(7, 1, true))
	if l := Gone(a, b); !slices.Equal(l, []int{2, 4, 5, 6}) {
		t.Errorf("Gone: %v", l)
	}
	if l := Gone(b, a); !slices.Equal(l, []int{3, 5, 6, 7}) {
		t.Errorf("Gone the other way: %v", l)
	}
	r := rand.New(rand.NewSource(144))
	for range 2000 {
		a, b := anyView(r, 1+r.Intn(1<<6-1)), anyView(r, 1+r.Intn(1<<6-1))
		var want []int
		for _, m := range a.L {
			if m.Up && (!IsUp(b, m.Node) || Life(b, m.Node) != m.Life) {
				want = append(want, m.Node)
			}
		}
		if l := Gone(a, b); !slices.Equal(l, want) {
			t.Fatalf("Gone(%v, %v): %v, not %v", a, b, l, want)
		}
		if l := Gone(a, a); l != nil {
			t.Fatalf("Gone(%v, itself): %v", a, l)
		}
	}
}

func refused(t *testing.T, s string) {
	t.Helper()
	if v, e := Read(s); e != api.ErrForm || !isZero(v) {
		t.Errorf("Read(%x): %v, %v", s, v, e)
	}
}

// Promise 14.3: Text and Read.
func TestText(t *testing.T) {
	for s, v := range views() {
		if Text(v) != s {
			t.Errorf("Text(%v): %x, not %x", v, Text(v), s)
		}
		if got, e := Read(s); e != api.OK || !same(got, v) {
			t.Errorf("Read(%x): %v, %v", s, got, e)
		}
		for _, behind := range []string{"\x00", "\x01\x01\x01", s} {
			refused(t, s+behind)
		}
		for i := range len(s) {
			refused(t, s[:i])
		}
	}
}

// bytesOf writes what may not be a view as one would be.
func bytesOf(v api.View) string {
	s := quic.Num(v.Epoch) + quic.Num(len(v.L))
	for _, m := range v.L {
		up := "\x00"
		if m.Up {
			up = "\x01"
		}
		s += quic.Num(m.Node) + quic.Num(m.Life) + up
	}
	return s
}

// Promise 14.3: bytes of no view.
func TestReadRefuses(t *testing.T) {
	for _, v := range wrongViews() {
		if len(v.L) < 100 {
			refused(t, bytesOf(v))
		}
	}
	for _, s := range []string{
		"", "\x01", "\x01\x00", "\x40\x01\x01\x01\x01\x01", "\x01\x40\x01\x01\x01\x01", "\x01\x01\x40\x01\x01\x01", "\x01\x01\x01\x40\x01\x01",
		"\x01\x01\x01\x01\x02", "\x01\x01\x01\x01\x40\x01", "\x01\x01\x01\x01\xff", "\x01\x02\x01\x01\x01", "\x02\x01\x01\x01\x01\x02\x01\x01",
		"\x01\xff\xff\xff\xff\xff\xff\xff\xff", "\x01\xff\xff\xff\xff\xff\xff\xff\xff\x01\x01\x01", "\xff\xff\xff\xff\xff\xff\xff\xff\x01\x01\x01\x01",
		"\x01\x10" + bytesOf(allNodes())[2:] + "\x10\x01\x01",
	} {
		refused(t, s)
	}
}

// Promises 14.3, 14.1: what is written is read, in one way alone; spoilt bytes are refused, or are those of another view.
func TestTextFollows(t *testing.T) {
	r := rand.New(rand.NewSource(145))
	seen := map[string]api.View{}
	read := 0
	for range 5000 {
		v := anyView(r, 1+r.Intn(1<<api.MaxNode-1))
		v.Epoch, v.L[0].Life = 1+r.Intn(1<<r.Intn(41)), 1+r.Intn(1<<r.Intn(41))
		if !Check(v) {
			continue
		}
		s := Text(v)
		if got, e := Read(s); e != api.OK || !same(got, v) || s != bytesOf(v) {
			t.Fatalf("%v: %x, %v, %v", v, s, got, e)
		}
		if other, is := seen[s]; is && !same(other, v) {
			t.Fatalf("%v and %v are both %x", v, other, s)
		}
		seen[s] = v
		spoilt := []byte(s)
		spoilt[r.Intn(len(s))] ^= byte(1 << r.Intn(8))
		got, e := Read(string(spoilt))
		switch {
		case e == api.OK && Text(got) == string(spoilt) && Check(got):
			read++
		case e != api.ErrForm || !isZero(got):
			t.Fatalf("Read(%x): %v, %v", spoilt, got, e)
		}
	}
	if read == 0 || read > 4000 {
		t.Errorf("%d spoilt ones were read", read)
	}
}

// heirsStay tells what of promise 14.4 does not hold of a node that goes.
func heirsStay(t *testing.T, v, w api.View, node int) {
	t.Helper()
	for _, s := range texts() {
		before, after := Heirs(v, s), Heirs(w, s)
		owner, is := Owner(w, s)
		if is && (owner != after[0] || !IsUp(w, owner)) {
			t.Fatalf("%v: the owner of %q is %d, heirs %v", w, s, owner, after)
		}
		if !slices.Contains(before, node) && !slices.Equal(before, after) {
			t.Fatalf("%v without %d: heirs of %q were %v, are %v", v, node, s, before, after)
		}
		if before[0] == node && len(before) > 1 && owner != before[1] {
			t.Fatalf("%v without %d: heirs of %q were %v, the owner is %d", v, node, s, before, owner)
		}
	}
}

// Promise 14.4: step by step.
func TestWhatFollows(t *testing.T) {
	r := rand.New(rand.NewSource(146))
	for range 60 {
		v, _ := First(subset(1 + r.Intn(1<<api.MaxNode-1)))
		for range 60 {
			node := v.L[r.Intn(len(v.L))].Node
			was := IsUp(v, node)
			step := Up
			if was {
				step = Down
			}
			w, e := step(v, node)
			if e != api.OK || w.Epoch != v.Epoch+1 || len(w.L) != len(v.L) || IsUp(w, node) == was || !Check(w) {
				t.Fatalf("%v, %d: %v, %v", v, node, w, e)
			}
			for i, m := range w.L {
				if old := v.L[i]; m.Node != old.Node || m.Life < old.Life || m.Node != node && m != old {
					t.Fatalf("%v, %d: %v", v, node, w)
				}
			}
			if was {
				heirsStay(t, v, w, node)
			} else {
				heirsStay(t, w, v, node)
			}
			v = w
		}
	}
}

// Rule R3: no answer shares memory with what was handed in, or with another answer.
func TestMemory(t *testing.T) {
	l := []int{1, 2, 3, 4, 5}
	v, _ := First(l)
	for i := range l {
		l[i] = -1
	}
	kept := copyOf(v)
	down, _ := Down(v, 2)
	up, _ := Up(down, 2)
	read, _ := Read(Text(up))
	for _, w := range []api.View{down, read} {
		for i := range w.L {
			w.L[i] = api.Member{}
		}
	}
	for range 2 {
		for _, got := range [][]int{Live(v), Heirs(v, "News"), Gone(v, up)} {
			for i := range got {
				got[i] = -1
			}
		}
	}
	if want := viewOf(3, member(1, 1, true), member(2, 2, true), member(3, 1, true), member(4, 1, true), member(5, 1, true)); !same(up, want) || !same(v, kept) {
		t.Errorf("%v, %v", up, v)
	}
}

// The chapter's example.
func TestExample(t *testing.T) {
	v, _ := First([]int{1, 2, 3})
	w, e := Down(v, 2)
	if e != api.OK || w.Epoch != 2 || !slices.Equal(Live(w), []int{1, 3}) {
		t.Errorf("Down 2: %v, %v", w, e)
	}
	x, e := Up(w, 2)
	if e != api.OK || x.Epoch != 3 || Life(x, 2) != 2 || Text(x) != "\x03\x03\x01\x01\x01\x02\x02\x01\x03\x01\x01" {
		t.Errorf("Up 2: %v, %v, %x", x, e, Text(x))
	}
}
