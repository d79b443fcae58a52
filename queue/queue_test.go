package queue

import (
	"math"
	"math/rand"
	"slices"
	"strings"
	"testing"

	"caduceus/api"
	"caduceus/event"
)

// told is an event, that has attributes, by its number.
func told(n int) api.Event {
	attrs := []api.Attr{{Name: "a", V: api.Value{Kind: api.KindInt, N: n}}, {Name: "b", V: api.Value{Kind: api.KindText, S: "x"}}}
	return api.Event{ID: api.ID{Node: 1, Life: 1, Seq: n}, Type: "News", Attrs: attrs}
}

func given(sub, n int) api.Given { return api.Given{Sub: sub, Of: "News", X: told(n)} }

func same(a, b api.Given) bool { return a.Sub == b.Sub && a.Of == b.Of && event.Same(a.X, b.X) }

func copied(g api.Given) api.Given {
	g.X.Attrs = slices.Clone(g.X.Attrs)
	return g
}

// plain is a queue as the chapter's words tell it: all that was ever offered, and what became of it.
type plain struct {
	room int
	l    []offered
}

type offered struct {
	g    api.Given
	fate fate
}

type fate int

const (
	there fate = iota
	taken
	left // out, for want of room
	forgotten
)

func (m *plain) those(of fate) (l []api.Given) {
	for _, o := range m.l {
		if o.fate == of {
			l = append(l, o.g)
		}
	}
	return l
}

func (m *plain) offer(g api.Given) api.Errno {
	o, e := offered{copied(g), there}, api.OK
	if len(m.those(there)) == m.room {
		o.fate, e = left, api.ErrFull
	}
	m.l = append(m.l, o)
	return e
}

func (m *plain) poll(most int) (l []api.Given) {
	for i := range m.l {
		if o := &m.l[i]; o.fate == there && len(l) < most {
			o.fate = taken
			l = append(l, o.g)
		}
	}
	return l
}

func (m *plain) over(sub int) (count int) {
	for _, g := range m.those(left) {
		if g.Sub == sub {
			count++
		}
	}
	return count
}

func (m *plain) forget(sub int) (count int) {
	for i := range m.l {
		o := &m.l[i]
		if o.g.Sub != sub || o.fate == taken {
			continue
		}
		if o.fate == there {
			count++
		}
		o.fate = forgotten
	}
	return count
}

// offers offers to both, and tells whether they answer the same.
func offers(t *testing.T, q *Queue, m *plain, g api.Given) api.Errno {
	t.Helper()
	before := copied(g)
	e, want := q.Offer(g), m.offer(g)
	if e != want || !same(g, before) {
		t.Fatalf("Offer(%v): %v, not %v", before, e, want)
	}
	return e
}

func polls(t *testing.T, q *Queue, m *plain, most int) []api.Given {
	t.Helper()
	got, want := q.Poll(most), m.poll(most)
	if !slices.EqualFunc(got, want, same) {
		t.Fatalf("Poll(%d): %v, not %v", most, got, want)
	}
	return got
}

func forgets(t *testing.T, q *Queue, m *plain, sub int) {
	t.Helper()
	if got, want := q.Forget(sub), m.forget(sub); got != want {
		t.Fatalf("Forget(%d): %d, not %d", sub, got, want)
	}
}

// agrees tells what a queue answers otherwise than the list, and whether it keeps counts of nobody.
func agrees(t *testing.T, q *Queue, m *plain) {
	t.Helper()
	want := m.those(there)
	if got := q.Peek(); !slices.EqualFunc(got, want, same) {
		t.Fatalf("Peek: %v, not %v", got, want)
	}
	if q.Len() != len(want) || q.Room() != m.room || q.Len() > q.Room() {
		t.Fatalf("%d of %d are there, not %d of %d", q.Len(), q.Room(), len(want), m.room)
	}
	counts := 0
	for _, sub := range []int{math.MinInt, -1, 0, 1, 2, 3, 4, 5, 6, 7, 8, 9, math.MaxInt} {
		if got, want := q.Over(sub), m.over(sub); got != want {
			t.Fatalf("Over(%d): %d, not %d", sub, got, want)
		}
		if m.over(sub) > 0 {
			counts++
		}
	}
	if len(q.over) != counts {
		t.Fatalf("%d counts are kept, not %d", len(q.over), counts)
	}
}

// Promise 18.1: New, and its edges.
func TestNew(t *testing.T) {
	for _, room := range []int{0, -1, 101, 102, math.MaxInt, math.MinInt} {
		if New(room) != nil {
			t.Errorf("there is a queue of room %d", room)
		}
	}
	for _, room := range []int{1, 2, 50, 99, 100} {
		q, m := New(room), &plain{room: room}
		agrees(t, q, m)
		for i := range room + 3 {
			offers(t, q, m, given(1+i%3, i+1))
		}
		agrees(t, q, m)
	}
	one, other := New(1), New(1)
	one.Offer(given(1, 1))
	one.Offer(given(1, 2))
	if other.Len() != 0 || other.Over(1) != 0 {
		t.Errorf("two queues are one")
	}
}

// wrongGiven: what may not be given, but for one thing each.
func wrongGiven() (l []api.Given) {
	for _, spoilt := range []func(g *api.Given){
		func(g *api.Given) { *g = api.Given{} },
		func(g *api.Given) { g.Sub = 0 },
		func(g *api.Given) { g.Sub = -1 },
		func(g *api.Given) { g.Sub = math.MinInt },
		func(g *api.Given) { g.Of = "" },
		func(g *api.Given) { g.Of = "a..b" },
		func(g *api.Given) { g.Of = "no name" },
		func(g *api.Given) { g.Of = "\xff" },
		func(g *api.Given) { g.Of = "a.b.c.d.e.f" },
		func(g *api.Given) { g.Of = strings.Repeat("a", 41) },
		func(g *api.Given) { g.X = api.Event{} },
		func(g *api.Given) { g.X.ID.Node = 0 },
		func(g *api.Given) { g.X.ID.Node = 16 },
		func(g *api.Given) { g.X.ID.Life = 0 },
		func(g *api.Given) { g.X.ID.Seq = api.MaxCount + 1 },
		func(g *api.Given) { g.X.Type = "1" },
		func(g *api.Given) { slices.Reverse(g.X.Attrs) },
		func(g *api.Given) { g.X.Attrs[1].Name = "A" },
		func(g *api.Given) { g.X.Attrs[0].V.N = api.MaxInt + 1 },
		func(g *api.Given) { g.X.Attrs[0].V = api.Value{} },
	} {
		g := given(1, 1)
		spoilt(&g)
		l = append(l, g)
	}
	return l
}

// Promise 18.1: what may not be is refused, also where there is no room, and is not counted.
func TestWrongOffers(t *testing.T) {
	q, m := New(2), &plain{room: 2}
	for range 4 {
		for _, g := range wrongGiven() {
			if e := q.Offer(g); e != api.ErrArg {
				t.Errorf("Offer(%v): %v", g, e)
			}
		}
		agrees(t, q, m)
		offers(t, q, m, given(1, 1))
	}
}

// Promise 18.1: the edges of what may be given.
func TestEdges(t *testing.T) {
	q, m := New(5), &plain{room: 5}
	offers(t, q, m, api.Given{Sub: 1, Of: "a", X: api.Event{ID: api.ID{Node: 1, Life: 1, Seq: 1}, Type: "a"}})
	most := api.ID{Node: api.MaxNode, Life: api.MaxCount, Seq: api.MaxCount}
	for range 6 {
		offers(t, q, m, api.Given{Sub: math.MaxInt, Of: strings.Repeat("é", 40), X: api.Event{ID: most, Type: "a.b.c.d.e"}})
	}
	agrees(t, q, m)
	if q.Over(math.MaxInt) != 2 {
		t.Errorf("Over: %d", q.Over(math.MaxInt))
	}
	// The type that was asked for and the event's own stand as they are written.
	g := api.Given{Sub: 1, Of: "NEWS", X: told(1)}
	r := New(1)
	if r.Offer(g); !same(r.Peek()[0], g) || !same(r.Poll(1)[0], g) {
		t.Errorf("what was given is not the same any more")
	}
}

// Promises 18.1, 18.2: room that was made is taken; one event is offered as often as it likes.
func TestRoom(t *testing.T) {
	q, m := New(2), &plain{room: 2}
	for i, want := range []api.Errno{api.OK, api.OK, api.ErrFull, api.ErrFull} {
		if e := offers(t, q, m, given(1+i%2, 7)); e != want {
			t.Errorf("%d: %v, not %v", i, e, want)
		}
	}
	polls(t, q, m, 1)
	if e := offers(t, q, m, given(1, 8)); e != api.OK {
		t.Errorf("behind Poll: %v", e)
	}
	if e := offers(t, q, m, given(1, 9)); e != api.ErrFull || q.Over(1) != 2 || q.Over(2) != 1 {
		t.Errorf("behind Poll: %v; over %d, %d", e, q.Over(1), q.Over(2))
	}
	forgets(t, q, m, 2)
	if e := offers(t, q, m, given(2, 10)); e != api.OK || q.Over(2) != 0 || q.Over(1) != 2 {
		t.Errorf("behind Forget: %v; over %d, %d", e, q.Over(1), q.Over(2))
	}
	agrees(t, q, m)
}

// Promise 18.2: Poll takes as many as it may.
func TestPoll(t *testing.T) {
	q, m := New(10), &plain{room: 10}
	for i := range 12 {
		offers(t, q, m, given(1+i%3, i+1))
	}
	for _, most := range []int{0, -1, math.MinInt} {
		if got := polls(t, q, m, most); len(got) != 0 || q.Len() != 10 {
			t.Errorf("Poll(%d): %v", most, got)
		}
	}
	for _, x := range []struct{ most, count int }{{1, 1}, {3, 3}, {4, 4}, {5, 2}, {1, 0}, {math.MaxInt, 0}} {
		if got := polls(t, q, m, x.most); len(got) != x.count {
			t.Errorf("Poll(%d): %d", x.most, len(got))
		}
		agrees(t, q, m)
	}
	offers(t, q, m, given(1, 20))
	offers(t, q, m, given(1, 21))
	if got := polls(t, q, m, math.MaxInt); len(got) != 2 {
		t.Errorf("Poll of all: %v", got)
	}
	agrees(t, q, m)
}

// Promise 18.2: Forget lets go what is there, and the count, of that one alone.
func TestForget(t *testing.T) {
	q, m := New(6), &plain{room: 6}
	for i := range 10 {
		offers(t, q, m, given(1+i%3, i+1))
	}
	for _, sub := range []int{0, -1, 9, math.MinInt, math.MaxInt, 2, 2, 1, 3, 3} {
		forgets(t, q, m, sub)
		agrees(t, q, m)
	}
	if q.Len() != 0 {
		t.Errorf("%d are left", q.Len())
	}
	// A count alone is forgotten, too, though nothing goes.
	q, m = New(1), &plain{room: 1}
	offers(t, q, m, given(1, 1))
	offers(t, q, m, given(2, 2))
	if q.Forget(2) != 0 || q.Over(2) != 0 || q.Len() != 1 {
		t.Errorf("Forget of a count: %d, %d", q.Over(2), q.Len())
	}
}

// Promise 18.2: no queue.
func TestNil(t *testing.T) {
	var q *Queue
	if q.Offer(given(1, 1)) != api.ErrArg || q.Offer(api.Given{}) != api.ErrArg || q.Poll(1) != nil || q.Peek() != nil {
		t.Errorf("no queue takes or has something")
	}
	if q.Len() != 0 || q.Room() != 0 || q.Over(1) != 0 || q.Forget(1) != 0 {
		t.Errorf("no queue counts something")
	}
}

// Promise 18.3: in order; each one was taken, is there, or did not come in.
func TestWhateverIsDone(t *testing.T) {
	r := rand.New(rand.NewSource(183))
	for range 60 {
		room := 1 + r.Intn(8)
		if r.Intn(10) == 0 {
			room = MaxRoom
		}
		q, m := New(room), &plain{room: room}
		tries, last := 0, 0
		for range 120 {
			switch r.Intn(12) {
			case 0, 1:
				for _, g := range polls(t, q, m, r.Intn(6)-1) {
					if g.X.ID.Seq <= last {
						t.Fatalf("%d is taken behind %d", g.X.ID.Seq, last)
					}
					last = g.X.ID.Seq
				}
			case 2:
				if r.Intn(4) == 0 {
					forgets(t, q, m, r.Intn(6))
				}
			case 3:
				if l := wrongGiven(); q.Offer(l[r.Intn(len(l))]) != api.ErrArg {
					t.Fatalf("what may not be is taken")
				}
			default:
				tries++
				offers(t, q, m, given(1+r.Intn(5), tries))
			}
			agrees(t, q, m)
		}
		if sum := len(m.those(taken)) + q.Len() + len(m.those(left)) + len(m.those(forgotten)); sum != tries {
			t.Fatalf("%d of %d are known", sum, tries)
		}
	}
}

// spoil writes over all memory of what was given.
func spoil(l []api.Given) {
	for _, g := range l {
		clear(g.X.Attrs)
	}
	clear(l[:cap(l)])
}

// Rule R3: what is handed in is not kept, what is answered is new memory.
func TestMemory(t *testing.T) {
	q, m := New(6), &plain{room: 6}
	for i := range 6 {
		g := given(1+i%2, i+1)
		offers(t, q, m, g)
		clear(g.X.Attrs)
	}
	agrees(t, q, m)
	one, other := q.Peek(), q.Peek()
	spoil(one)
	agrees(t, q, m)
	if !slices.EqualFunc(other, m.those(there), same) {
		t.Errorf("two answers share memory: %v", other)
	}
	got, again := q.Poll(2), q.Poll(2)
	m.poll(2)
	want := m.poll(2)
	spoil(append(got, given(9, 9)))
	spoil(got)
	if !slices.EqualFunc(again, want, same) {
		t.Errorf("two answers share memory: %v", again)
	}
	spoil(again)
	agrees(t, q, m)
	offers(t, q, m, given(1, 7))
	agrees(t, q, m)
}

// The chapter's example.
func TestExample(t *testing.T) {
	q := New(2)
	for i, want := range []api.Errno{api.OK, api.OK, api.ErrFull} {
		if e := q.Offer(given(7, i+1)); e != want {
			t.Errorf("offer %d: %v", i, e)
		}
	}
	if q.Over(7) != 1 || len(q.Poll(5)) != 2 {
		t.Errorf("over: %d", q.Over(7))
	}
}
