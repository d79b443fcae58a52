package ring

import (
	"hash/fnv"
	"math"
	"math/rand"
	"slices"
	"strconv"
	"testing"

	"caduceus/api"
	"caduceus/name"
)

// pointOf works a node's point out by another way.
func pointOf(node int) uint64 {
	h := fnv.New64a()
	h.Write([]byte("node " + strconv.Itoa(node)))
	return h.Sum64()
}

// wrongNodes: what may not be nodes.
func wrongNodes() [][]int {
	return [][]int{{0}, {-1}, {api.MaxNode + 1}, {2, 1}, {1, 1}, {1, 2, 2}, {1, 3, 2}, {0, 1}, {1, 2, 16}, {math.MaxInt}, {math.MinInt, 1}, {1, 2, 3, 4, 5, 6, 7, 8, 9, 10, 11, 12, 13, 14, 15, 16}}
}

func all() (l []int) {
	for n := range api.MaxNode {
		l = append(l, n+1)
	}
	return l
}

// subset: the nodes whose bits are set, 1 by the lowest one.
func subset(bits int) (l []int) {
	for n := range api.MaxNode {
		if bits>>n&1 == 1 {
			l = append(l, n+1)
		}
	}
	return l
}

// keys: those at which owners change, and some others.
func keys(r *rand.Rand) (out []uint64) {
	for n := 1; n <= api.MaxNode; n++ {
		out = append(out, pointOf(n)-1, pointOf(n), pointOf(n)+1)
	}
	out = append(out, 0, 1, math.MaxUint64, math.MaxUint64-1, 1<<63)
	for range 10 {
		out = append(out, r.Uint64())
	}
	return out
}

// ownerOf looks for the owner without a ring: the least point that is not below the key, else the least of all.
func ownerOf(key uint64, l []int) int {
	best := l[0]
	for _, n := range l {
		// What is not below the key comes ahead of what is.
		if pointOf(n)-key < pointOf(best)-key {
			best = n
		}
	}
	return best
}

// Promise 10.1: Nodes.
func TestNodes(t *testing.T) {
	for _, l := range [][]int{nil, {}, {1}, {api.MaxNode}, {1, 2}, {1, 15}, {3, 7, 9}, all()} {
		if !Nodes(l) {
			t.Errorf("%v are nodes", l)
		}
	}
	for _, l := range wrongNodes() {
		if Nodes(l) {
			t.Errorf("%v are no nodes", l)
		}
	}
}

// Promise 10.1: Point; no two nodes have one, so that every way ends.
func TestPoint(t *testing.T) {
	seen := map[uint64]int{}
	for n := 1; n <= api.MaxNode; n++ {
		if Point(n) != pointOf(n) || Point(n) != name.Hash("node "+strconv.Itoa(n)) {
			t.Errorf("Point(%d) = %d", n, Point(n))
		}
		if seen[Point(n)] != 0 {
			t.Errorf("%d has a point that another node has", n)
		}
		seen[Point(n)] = n
	}
	for _, n := range []int{0, -1, api.MaxNode + 1, math.MaxInt, math.MinInt} {
		if Point(n) != 0 {
			t.Errorf("Point(%d) = %d", n, Point(n))
		}
	}
}

// Promise 10.1: Ring.
func TestRing(t *testing.T) {
	for bits := range 1 << api.MaxNode {
		if bits > 300 && bits%37 != 0 {
			continue
		}
		l := subset(bits)
		ring := Ring(l)
		if len(ring) != len(l) {
			t.Fatalf("Ring(%v) = %v", l, ring)
		}
		for i, n := range ring {
			if !slices.Contains(l, n) || i > 0 && pointOf(ring[i-1]) >= pointOf(n) {
				t.Fatalf("Ring(%v) = %v", l, ring)
			}
		}
	}
}

// Promise 10.1: nothing and false of what may not be nodes, and of none.
func TestWrongNodes(t *testing.T) {
	for _, l := range append(wrongNodes(), nil, []int{}) {
		for _, key := range []uint64{0, 7, math.MaxUint64} {
			owner, is := Owner(key, l)
			keeper, kept := Keeper("News", l)
			to, hops := Hop(1, key, l)
			if owner != 0 || is || keeper != 0 || kept || to != 0 || hops {
				t.Errorf("%v: owner %d %v, keeper %d %v, hop %d %v", l, owner, is, keeper, kept, to, hops)
			}
			if len(Ring(l)) != 0 || len(Heirs(key, l, 3)) != 0 || len(Fingers(1, l)) != 0 || len(Way(1, key, l)) != 0 {
				t.Errorf("%v: ring %v, heirs %v, fingers %v, way %v", l, Ring(l), Heirs(key, l, 3), Fingers(1, l), Way(1, key, l))
			}
		}
	}
}

// Promises 10.1, 10.3: Owner, and how it changes as nodes come and go.
func TestOwner(t *testing.T) {
	r := rand.New(rand.NewSource(1))
	for range 300 {
		l := subset(1 + r.Intn(1<<api.MaxNode-1))
		for _, key := range keys(r) {
			owner, is := Owner(key, l)
			if !is || owner != ownerOf(key, l) {
				t.Fatalf("Owner(%d, %v) = %d, %v; want %d", key, l, owner, is, ownerOf(key, l))
			}
			heirs := Heirs(key, l, 2)
			for i, n := range l {
				without := slices.Delete(slices.Clone(l), i, i+1)
				next, is := Owner(key, without)
				switch {
				case len(without) == 0:
					if is {
						t.Fatalf("an owner among none")
					}
				case n == owner && next != heirs[1], n != owner && next != owner:
					t.Fatalf("Owner(%d, %v) = %d without %d, heirs %v", key, l, next, n, heirs)
				}
			}
			more := 1 + r.Intn(api.MaxNode)
			with := slices.Compact(slices.Sorted(slices.Values(append(slices.Clone(l), more))))
			if next, _ := Owner(key, with); next != owner && next != more {
				t.Fatalf("Owner(%d, %v) = %d with %d more", key, l, next, more)
			}
		}
	}
}

// Promise 10.1: Heirs.
func TestHeirs(t *testing.T) {
	r := rand.New(rand.NewSource(2))
	for range 200 {
		l := subset(1 + r.Intn(1<<api.MaxNode-1))
		for _, key := range keys(r) {
			// Each heir owns the key, when those ahead of it are gone.
			var want []int
			for left := slices.Clone(l); len(left) > 0; {
				heir := ownerOf(key, left)
				want = append(want, heir)
				left = slices.DeleteFunc(left, func(n int) bool { return n == heir })
			}
			for _, most := range []int{math.MinInt, -1, 0, 1, 2, 3, len(l) - 1, len(l), len(l) + 1, math.MaxInt} {
				if got := Heirs(key, l, most); !slices.Equal(got, want[:max(0, min(most, len(want)))]) {
					t.Fatalf("Heirs(%d, %v, %d) = %v, of %v", key, l, most, got, want)
				}
			}
		}
	}
}

// Promise 10.1: Keeper, of any text.
func TestKeeper(t *testing.T) {
	l := []int{1, 3, 5, 7, 9, 11}
	for _, s := range []string{"", "News", "NEWS", "news", "Émile.x-1", "ÉMILE.X-1", "no name", "\xff", "News.Sport"} {
		owner, _ := Owner(name.Key(s), l)
		if got, is := Keeper(s, l); got != owner || !is {
			t.Errorf("Keeper(%q) = %d, %v; want %d", s, got, is, owner)
		}
	}
}

// Promise 10.2: Fingers.
func TestFingers(t *testing.T) {
	r := rand.New(rand.NewSource(3))
	for range 300 {
		l := subset(1 + r.Intn(1<<api.MaxNode-1))
		for node := -1; node <= api.MaxNode+2; node++ {
			var want []int
			if slices.Contains(l, node) {
				for i := range 64 {
					n := ownerOf(pointOf(node)+1<<i, l)
					if n != node && !slices.Contains(want, n) {
						want = append(want, n)
					}
				}
			}
			if got := Fingers(node, l); !slices.Equal(got, want) {
				t.Fatalf("Fingers(%d, %v) = %v, want %v", node, l, got, want)
			}
		}
	}
	if got := Fingers(4, []int{4}); len(got) != 0 {
		t.Errorf("a node alone has fingers %v", got)
	}
}

// hopOf goes by the words of the chapter.
func hopOf(from int, key uint64, l []int) (int, bool) {
	owner := ownerOf(key, l)
	if from == owner {
		return 0, false
	}
	fingers := Fingers(from, l)
	if slices.Contains(fingers, owner) {
		return owner, true
	}
	var less []int
	for _, n := range fingers {
		if key-pointOf(n) < key-pointOf(from) {
			less = append(less, n)
		}
	}
	if len(less) == 0 {
		return fingers[0], true
	}
	return slices.MinFunc(less, func(a, b int) int {
		if key-pointOf(a) < key-pointOf(b) {
			return -1
		}
		return 1
	}), true
}

// Promises 10.2, 10.3: Hop and Way.
func TestWay(t *testing.T) {
	r := rand.New(rand.NewSource(4))
	longest := 0
	for range 60 {
		l := subset(1 + r.Intn(1<<api.MaxNode-1))
		if r.Intn(3) == 0 {
			l = all()
		}
		for _, key := range keys(r) {
			for from := -1; from <= api.MaxNode+1; from++ {
				way := Way(from, key, l)
				if !slices.Contains(l, from) {
					if to, is := Hop(from, key, l); to != 0 || is || len(way) != 0 {
						t.Fatalf("from %d, not among %v: %d, %v, %v", from, l, to, is, way)
					}
					continue
				}
				want := []int{from}
				for at := from; ; {
					to, is := Hop(at, key, l)
					if wantTo, wantIs := hopOf(at, key, l); to != wantTo || is != wantIs {
						t.Fatalf("Hop(%d, %d, %v) = %d, %v; want %d, %v", at, key, l, to, is, wantTo, wantIs)
					}
					if !is {
						break
					}
					at = to
					want = append(want, at)
				}
				if !slices.Equal(way, want) || way[len(way)-1] != ownerOf(key, l) {
					t.Fatalf("Way(%d, %d, %v) = %v, want %v", from, key, l, way, want)
				}
				if sorted := slices.Sorted(slices.Values(way)); len(slices.Compact(sorted)) != len(way) {
					t.Fatalf("Way(%d, %d, %v) = %v comes by a node twice", from, key, l, way)
				}
				longest = max(longest, len(way))
			}
		}
	}
	if longest < 3 {
		t.Errorf("no way goes by a node that is not at its end")
	}
}

// Rule R3: nothing that is handed in is changed, no answer shares memory.
func TestMemory(t *testing.T) {
	l := all()
	for range 2 {
		for _, got := range [][]int{Ring(l), Heirs(9, l, 15), Fingers(3, l), Way(3, 9, l)} {
			if !slices.Equal(l, all()) {
				t.Fatalf("%v", l)
			}
			for i := range got {
				got[i] = -1
			}
		}
	}
	if owner, _ := Owner(pointOf(3), l); owner != 3 || !slices.Equal(l, all()) {
		t.Errorf("%v, %d", l, owner)
	}
}
