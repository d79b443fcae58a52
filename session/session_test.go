package session

import (
	"math"
	"math/rand"
	"slices"
	"strconv"
	"strings"
	"testing"

	"caduceus/api"
	"caduceus/cover"
	"caduceus/event"
	"caduceus/filter"
	"caduceus/forest"
	"caduceus/name"
)

func by(seq int) api.ID { return api.ID{Node: 1, Life: 1, Seq: seq} }

// kind is a type that is below another one, and has a number a, a text b and a flag c.
func kind(t *testing.T, s string) api.Type {
	t.Helper()
	top, e := forest.Root("Top", []api.Field{{Name: "b", Kind: api.KindText}}, by(1))
	if e != api.OK {
		t.Fatal(e)
	}
	x, e := forest.Below(top, s, []api.Field{{Name: "a", Kind: api.KindInt, Must: true}, {Name: "c", Kind: api.KindBool}}, by(2))
	if e != api.OK {
		t.Fatalf("Below(%q): %v", s, e)
	}
	return x
}

// say is the filter of a text.
func say(t *testing.T, s string) []api.Pred {
	t.Helper()
	f, at, e := filter.Parse(s)
	if e != api.OK {
		t.Fatalf("%q goes wrong at %d: %v", s, at, e)
	}
	return f
}

// told is an event by its number, with an attribute a.
func told(seq, a int) api.Event {
	return api.Event{ID: by(seq), Type: "News.Sport", Attrs: []api.Attr{{Name: "a", V: api.Value{Kind: api.KindInt, N: a}}}}
}

func sameGiven(a, b api.Given) bool {
	return a.Sub == b.Sub && a.Of == b.Of && event.Same(a.X, b.X)
}

func copiedFilter(f []api.Pred) (out []api.Pred) {
	for _, p := range f {
		out = append(out, api.Pred{Name: p.Name, Op: p.Op, L: slices.Clone(p.L)})
	}
	return out
}

func copiedType(t api.Type) api.Type {
	t.Own, t.All, t.Chain = slices.Clone(t.Own), slices.Clone(t.All), slices.Clone(t.Chain)
	return t
}

func spoilFilter(f []api.Pred) {
	for i := range f {
		clear(f[i].L)
		f[i] = api.Pred{}
	}
}

func spoilType(t api.Type) {
	clear(t.Own)
	clear(t.All)
	clear(t.Chain)
}

// wrongTypes: what may not be, but for one thing each.
func wrongTypes(t *testing.T) (l []api.Type) {
	for i, spoilt := range []func(x *api.Type){
		func(x *api.Type) { *x = api.Type{} },
		func(x *api.Type) { x.Name = "Golf" },
		func(x *api.Type) { x.Name, x.Chain[0] = "a b", "a b" },
		func(x *api.Type) { x.Parent = "" },
		func(x *api.Type) { x.Chain = x.Chain[:1] },
		func(x *api.Type) { x.Own[0].Kind = 0 },
		func(x *api.Type) { x.All = x.All[:1] },
		func(x *api.Type) { slices.Reverse(x.All) },
		func(x *api.Type) { x.By = api.ID{} },
	} {
		x := kind(t, "News")
		if spoilt(&x); forest.Check(x) {
			t.Fatalf("%d may be: %v", i, x)
		}
		l = append(l, x)
	}
	return l
}

// wrongFilters: what is no filter.
func wrongFilters(t *testing.T) [][]api.Pred {
	one := say(t, "a = 1")
	return [][]api.Pred{{{}}, {{Name: "a", Op: api.OpEq}}, {{Name: "any", Op: api.OpHas}}, {{Name: "a", Op: 99}}, append(one, api.Pred{}), slices.Repeat(one, api.MaxPreds+1)}
}

// wrongEvents: what may not be, but for one thing each.
func wrongEvents() (l []api.Event) {
	for _, spoilt := range []func(x *api.Event){
		func(x *api.Event) { *x = api.Event{} },
		func(x *api.Event) { x.ID.Node = 16 },
		func(x *api.Event) { x.ID.Life = 0 },
		func(x *api.Event) { x.ID.Seq = api.MaxCount + 1 },
		func(x *api.Event) { x.Type = "" },
		func(x *api.Event) { x.Attrs[0].Name = "a.b" },
		func(x *api.Event) { x.Attrs[0].V.N = api.MaxInt + 1 },
		func(x *api.Event) { x.Attrs = append(x.Attrs, x.Attrs...) },
	} {
		x := told(1, 1)
		spoilt(&x)
		l = append(l, x)
	}
	return l
}

// wrongNames: what is no name.
func wrongNames() []string {
	return []string{"", "1", ".a", "a.", "a..b", "a b", "\xff", "a.b.c.d.e.f", strings.Repeat("a", 41)}
}

// plain is sessions as the chapter's words tell them: lists of all that ever was.
type plain struct {
	sessions []client
	subs     []wish
	known    []string
}

type client struct {
	closed bool
	room   int
	ads    []api.Type
	queue  []api.Given
	over   []int // the subscriptions of those that did not come in
}

type wish struct {
	ended   bool
	session int
	t       api.Type
	f       []api.Pred
}

func (m *plain) find(id int) *client {
	if id < 1 || id > len(m.sessions) || m.sessions[id-1].closed {
		return nil
	}
	return &m.sessions[id-1]
}

func (m *plain) open(room int) (int, api.Errno) {
	count := 0
	for _, c := range m.sessions {
		if !c.closed {
			count++
		}
	}
	switch {
	case room < 1 || room > 100:
		return 0, api.ErrArg
	case count >= 20:
		return 0, api.ErrFull
	}
	m.sessions = append(m.sessions, client{room: room})
	return len(m.sessions), api.OK
}

func (m *plain) close(id int) api.Errno {
	c := m.find(id)
	if c == nil {
		return api.ErrNone
	}
	*c = client{closed: true}
	for i := range m.subs {
		m.subs[i].ended = m.subs[i].ended || m.subs[i].session == id
	}
	return api.OK
}

func (m *plain) ad(id int, n string) int {
	if c := m.find(id); c != nil {
		return slices.IndexFunc(c.ads, func(t api.Type) bool { return name.Same(t.Name, n) })
	}
	return -1
}

func (m *plain) advertise(id int, t api.Type) api.Errno {
	c := m.find(id)
	switch {
	case c == nil:
		return api.ErrNone
	case !forest.Check(t):
		return api.ErrArg
	case m.ad(id, t.Name) >= 0:
		return api.ErrThere
	case len(c.ads) >= 20:
		return api.ErrFull
	}
	c.ads = append(c.ads, copiedType(t))
	return api.OK
}

func (m *plain) withdraw(id int, n string) api.Errno {
	at := m.ad(id, n)
	if at < 0 {
		return api.ErrNone
	}
	c := m.find(id)
	c.ads = slices.Delete(c.ads, at, at+1)
	return api.OK
}

func (m *plain) numbers(id int) (l []int) {
	for i, w := range m.subs {
		if !w.ended && w.session == id {
			l = append(l, i+1)
		}
	}
	return l
}

func (m *plain) subscribe(id int, t api.Type, f []api.Pred) (int, api.Errno) {
	switch {
	case m.find(id) == nil:
		return 0, api.ErrNone
	case !forest.Check(t):
		return 0, api.ErrArg
	case filter.Fits(t.All, f) != api.OK:
		return 0, filter.Fits(t.All, f)
	case len(m.numbers(id)) >= 30:
		return 0, api.ErrFull
	}
	m.subs = append(m.subs, wish{session: id, t: copiedType(t), f: copiedFilter(f)})
	return len(m.subs), api.OK
}

func (m *plain) unsubscribe(id, sub int) (string, api.Errno) {
	if m.find(id) == nil || !slices.Contains(m.numbers(id), sub) {
		return "", api.ErrNone
	}
	m.subs[sub-1].ended = true
	return m.subs[sub-1].t.Name, api.OK
}

func (m *plain) filters(n string) (l [][]api.Pred) {
	for _, w := range m.subs {
		if !w.ended && name.Same(w.t.Name, n) {
			l = append(l, w.f)
		}
	}
	return l
}

func (m *plain) wanted(n string) [][]api.Pred {
	few := cover.Few(m.filters(n))
	if len(few) > 20 {
		return [][]api.Pred{{}}
	}
	return few
}

func (m *plain) types() (l []string) {
	for _, w := range m.subs {
		if s := name.Fold(w.t.Name); !w.ended && !slices.Contains(l, s) {
			l = append(l, s)
		}
	}
	slices.SortFunc(l, name.Compare)
	return l
}

func (m *plain) deliver(of string, x api.Event) (taken int, e api.Errno) {
	if name.Check(of) != api.OK || !event.Check(x) {
		return 0, api.ErrArg
	}
	if s := event.ShowID(x.ID) + " " + name.Fold(of); slices.Contains(m.known, s) {
		return 0, api.ErrThere
	} else {
		m.known = append(m.known, s)
	}
	for i, w := range m.subs {
		if w.ended || !name.Same(w.t.Name, of) || !filter.Lets(w.f, x.Attrs) {
			continue
		}
		c := m.find(w.session)
		if len(c.queue) == c.room {
			c.over = append(c.over, i+1)
			continue
		}
		x.Attrs = slices.Clone(x.Attrs)
		c.queue = append(c.queue, api.Given{Sub: i + 1, Of: of, X: x})
		taken++
	}
	return taken, api.OK
}

func (m *plain) poll(id, most int) (l []api.Given, e api.Errno) {
	c := m.find(id)
	if c == nil {
		return nil, api.ErrNone
	}
	for len(l) < most && len(c.queue) > 0 {
		l, c.queue = append(l, c.queue[0]), c.queue[1:]
	}
	return l, api.OK
}

func (m *plain) over(id, sub int) (count int, e api.Errno) {
	c := m.find(id)
	if c == nil {
		return 0, api.ErrNone
	}
	for _, x := range c.over {
		if x == sub {
			count++
		}
	}
	return count, api.OK
}

// both is sessions and lists to which the same is done, and which must answer the same.
type both struct {
	*testing.T
	s *Sessions
	m *plain
}

func fresh(t *testing.T) both { return both{t, New(), &plain{}} }

func (b both) open(room int) (int, api.Errno) {
	b.Helper()
	n, e := b.s.Open(room)
	if want, wrong := b.m.open(room); n != want || e != wrong {
		b.Fatalf("Open(%d): %d, %v, not %d, %v", room, n, e, want, wrong)
	}
	return n, e
}

func (b both) close(id int) api.Errno {
	b.Helper()
	e := b.s.Close(id)
	if want := b.m.close(id); e != want {
		b.Fatalf("Close(%d): %v, not %v", id, e, want)
	}
	return e
}

func (b both) advertise(id int, t api.Type) api.Errno {
	b.Helper()
	before := copiedType(t)
	e := b.s.Advertise(id, t)
	if want := b.m.advertise(id, t); e != want || !forest.Same(t, before) {
		b.Fatalf("Advertise(%d, %v): %v, not %v", id, before, e, want)
	}
	return e
}

func (b both) withdraw(id int, n string) api.Errno {
	b.Helper()
	e := b.s.Withdraw(id, n)
	if want := b.m.withdraw(id, n); e != want {
		b.Fatalf("Withdraw(%d, %q): %v, not %v", id, n, e, want)
	}
	return e
}

func (b both) subscribe(id int, t api.Type, f []api.Pred) (int, api.Errno) {
	b.Helper()
	typed, asked := copiedType(t), copiedFilter(f)
	n, e := b.s.Subscribe(id, t, f)
	if want, wrong := b.m.subscribe(id, t, f); n != want || e != wrong || !forest.Same(t, typed) || !filter.Same(f, asked) {
		b.Fatalf("Subscribe(%d, %v, %v): %d, %v, not %d, %v", id, typed, asked, n, e, want, wrong)
	}
	return n, e
}

func (b both) unsubscribe(id, sub int) (string, api.Errno) {
	b.Helper()
	s, e := b.s.Unsubscribe(id, sub)
	if want, wrong := b.m.unsubscribe(id, sub); s != want || e != wrong {
		b.Fatalf("Unsubscribe(%d, %d): %q, %v, not %q, %v", id, sub, s, e, want, wrong)
	}
	return s, e
}

func (b both) deliver(of string, x api.Event) (int, api.Errno) {
	b.Helper()
	before := slices.Clone(x.Attrs)
	n, e := b.s.Deliver(of, x)
	if want, wrong := b.m.deliver(of, x); n != want || e != wrong || !slices.Equal(x.Attrs, before) {
		b.Fatalf("Deliver(%q, %v): %d, %v, not %d, %v", of, x, n, e, want, wrong)
	}
	return n, e
}

func (b both) poll(id, most int) ([]api.Given, api.Errno) {
	b.Helper()
	l, e := b.s.Poll(id, most)
	if want, wrong := b.m.poll(id, most); !slices.EqualFunc(l, want, sameGiven) || e != wrong {
		b.Fatalf("Poll(%d, %d): %v, %v, not %v, %v", id, most, l, e, want, wrong)
	}
	return l, e
}

// someNames: names, written in more than one way, and what is no name.
func someNames() []string {
	return append(wrongNames(), "News", "NEWS", "news", "Golf", "gOLF", "Émile.x-1", "ÉMILE.X-1", "Top", "none")
}

// agrees asks all that changes nothing.
func (b both) agrees() {
	b.Helper()
	for id := -1; id <= len(b.m.sessions)+1; id++ {
		b.agreesOf(id)
	}
	if got, want := b.s.Types(), b.m.types(); !slices.Equal(got, want) {
		b.Fatalf("Types: %q, not %q", got, want)
	}
	for _, n := range someNames() {
		if got, want := b.s.Wanted(n), b.m.wanted(n); !slices.EqualFunc(got, want, filter.Same) {
			b.Fatalf("Wanted(%q): %v, not %v", n, got, want)
		}
	}
}

func (b both) agreesOf(id int) {
	b.Helper()
	c := b.m.find(id)
	if b.s.IsOpen(id) != (c != nil) {
		b.Fatalf("IsOpen(%d): %v", id, b.s.IsOpen(id))
	}
	if got, want := b.s.Subs(id), b.m.numbers(id); !slices.Equal(got, want) {
		b.Fatalf("Subs(%d): %v, not %v", id, got, want)
	}
	var waiting []api.Given
	if c != nil {
		waiting = c.queue
	}
	if got := b.s.Peek(id); !slices.EqualFunc(got, waiting, sameGiven) {
		b.Fatalf("Peek(%d): %v, not %v", id, got, waiting)
	}
	for sub := -1; sub <= len(b.m.subs)+1; sub++ {
		got, e := b.s.Over(id, sub)
		if want, wrong := b.m.over(id, sub); got != want || e != wrong {
			b.Fatalf("Over(%d, %d): %d, %v, not %d, %v", id, sub, got, e, want, wrong)
		}
	}
	for _, n := range someNames() {
		var want api.Type
		if at := b.m.ad(id, n); at >= 0 {
			want = c.ads[at]
		}
		if got, is := b.s.Ad(id, n); !forest.Same(got, want) || is != (want.Name != "") {
			b.Fatalf("Ad(%d, %q): %v, %v, not %v", id, n, got, is, want)
		}
	}
}

// Promise 19.1: New.
func TestNew(t *testing.T) {
	b := fresh(t)
	b.agrees()
	if n, e := New().Open(1); n != 1 || e != api.OK || b.s.IsOpen(1) {
		t.Errorf("Open of others: %d, %v", n, e)
	}
}

// Promise 19.1: Open, its edges, and numbers that are not taken again.
func TestOpen(t *testing.T) {
	b := fresh(t)
	for _, room := range []int{0, -1, 101, math.MaxInt, math.MinInt} {
		if _, e := b.open(room); e != api.ErrArg {
			t.Errorf("Open(%d): %v", room, e)
		}
	}
	for i := range MaxSessions {
		if n, e := b.open([]int{1, 100, 50}[i%3]); n != i+1 || e != api.OK {
			t.Errorf("%d: Open: %d, %v", i, n, e)
		}
	}
	if _, e := b.open(1); e != api.ErrFull {
		t.Errorf("Open of one too many: %v", e)
	}
	if _, e := b.open(0); e != api.ErrArg {
		t.Errorf("Open of no room, of one too many: %v", e)
	}
	b.close(20)
	b.close(3)
	if n, e := b.open(1); n != 21 || e != api.OK {
		t.Errorf("Open behind Close: %d, %v", n, e)
	}
	if n, e := b.open(1); n != 22 || e != api.OK {
		t.Errorf("Open behind Close: %d, %v", n, e)
	}
	if _, e := b.open(1); e != api.ErrFull {
		t.Errorf("Open of one too many: %v", e)
	}
	b.agrees()
}

// Promise 19.1: Close lets all go that a session had, and nothing of another one.
func TestClose(t *testing.T) {
	b := fresh(t)
	for _, id := range []int{0, 1, -1, math.MaxInt, math.MinInt} {
		if e := b.close(id); e != api.ErrNone {
			t.Errorf("Close(%d): %v", id, e)
		}
	}
	for range 3 {
		n, _ := b.open(1)
		b.advertise(n, kind(t, "News"))
		b.subscribe(n, kind(t, "News"), say(t, "a > "+strconv.Itoa(n)))
		b.subscribe(n, kind(t, "Golf"), nil)
	}
	b.deliver("News", told(1, 9))
	b.deliver("News", told(2, 9))
	b.agrees()
	if e := b.close(2); e != api.OK {
		t.Errorf("Close: %v", e)
	}
	if e := b.close(2); e != api.ErrNone {
		t.Errorf("Close again: %v", e)
	}
	b.agrees()
	if e := b.advertise(2, kind(t, "News")); e != api.ErrNone {
		t.Errorf("Advertise behind Close: %v", e)
	}
	if e := b.withdraw(2, "News"); e != api.ErrNone {
		t.Errorf("Withdraw behind Close: %v", e)
	}
	if _, e := b.subscribe(2, kind(t, "News"), nil); e != api.ErrNone {
		t.Errorf("Subscribe behind Close: %v", e)
	}
	if _, e := b.unsubscribe(2, 3); e != api.ErrNone {
		t.Errorf("Unsubscribe behind Close: %v", e)
	}
	if _, e := b.poll(2, 9); e != api.ErrNone {
		t.Errorf("Poll behind Close: %v", e)
	}
	b.poll(1, 9)
	b.poll(3, 9)
	if n, e := b.deliver("News", told(3, 9)); n != 2 || e != api.OK {
		t.Errorf("Deliver behind Close: %d, %v", n, e)
	}
	// What was delivered is known, whoever is gone.
	b.close(1)
	b.close(3)
	b.open(5)
	b.subscribe(4, kind(t, "News"), nil)
	if _, e := b.deliver("News", told(3, 9)); e != api.ErrThere {
		t.Errorf("Deliver again: %v", e)
	}
	b.agrees()
}

// Promise 19.2: Advertise, Withdraw, Ad.
func TestAds(t *testing.T) {
	b := fresh(t)
	if e := b.advertise(1, api.Type{}); e != api.ErrNone {
		t.Errorf("Advertise in no session: %v", e)
	}
	b.open(1)
	b.open(1)
	for _, x := range wrongTypes(t) {
		if e := b.advertise(1, x); e != api.ErrArg {
			t.Errorf("Advertise(%v): %v", x, e)
		}
	}
	for _, x := range []struct {
		id int
		s  string
		e  api.Errno
	}{{1, "News", api.OK}, {1, "News", api.ErrThere}, {1, "NEWS", api.ErrThere}, {2, "NEWS", api.OK}, {1, "Émile.x-1", api.OK}, {1, "ÉMILE.X-1", api.ErrThere}, {3, "News", api.ErrNone}} {
		if e := b.advertise(x.id, kind(t, x.s)); e != x.e {
			t.Errorf("Advertise(%d, %q): %v", x.id, x.s, e)
		}
	}
	b.agrees()
	// Another type of that name is not taken for the first one.
	other, _ := forest.Root("news", nil, by(9))
	if e := b.advertise(1, other); e != api.ErrThere {
		t.Errorf("Advertise of another type: %v", e)
	}
	if x, is := b.s.Ad(1, "neWs"); !is || x.Name != "News" || len(x.All) != 3 {
		t.Errorf("Ad: %v", x)
	}
	for _, n := range wrongNames() {
		if e := b.withdraw(1, n); e != api.ErrNone {
			t.Errorf("Withdraw(%q): %v", n, e)
		}
	}
	if e := b.withdraw(1, "nEWS"); e != api.OK {
		t.Errorf("Withdraw: %v", e)
	}
	if e := b.withdraw(1, "News"); e != api.ErrNone {
		t.Errorf("Withdraw again: %v", e)
	}
	if e := b.withdraw(3, "News"); e != api.ErrNone {
		t.Errorf("Withdraw in no session: %v", e)
	}
	b.agrees()
	if e := b.advertise(1, other); e != api.OK {
		t.Errorf("Advertise behind Withdraw: %v", e)
	}
	b.agrees()
}

// Promise 19.2: as many as there may be, of each session.
func TestManyAds(t *testing.T) {
	b := fresh(t)
	for range 2 {
		id, _ := b.open(1)
		for i := range MaxAds {
			if e := b.advertise(id, kind(t, "t"+strconv.Itoa(i))); e != api.OK {
				t.Fatalf("%d: %v", i, e)
			}
		}
		for _, x := range []struct {
			t api.Type
			e api.Errno
		}{{kind(t, "one"), api.ErrFull}, {kind(t, "T7"), api.ErrThere}, {api.Type{}, api.ErrArg}} {
			if e := b.advertise(id, x.t); e != x.e {
				t.Errorf("Advertise of one too many: %v, not %v", e, x.e)
			}
		}
		b.withdraw(id, "t7")
		if e := b.advertise(id, kind(t, "one")); e != api.OK {
			t.Errorf("Advertise behind Withdraw: %v", e)
		}
		if e := b.advertise(id, kind(t, "two")); e != api.ErrFull {
			t.Errorf("Advertise of one too many: %v", e)
		}
		b.agrees()
	}
}

// Promise 19.3: the errors of Subscribe, in their order; none takes a number.
func TestWrongSubscribes(t *testing.T) {
	b := fresh(t)
	if _, e := b.subscribe(1, api.Type{}, wrongFilters(t)[0]); e != api.ErrNone {
		t.Errorf("Subscribe in no session: %v", e)
	}
	b.open(1)
	for _, x := range wrongTypes(t) {
		if _, e := b.subscribe(1, x, say(t, "z = 1")); e != api.ErrArg {
			t.Errorf("Subscribe to %v: %v", x, e)
		}
	}
	for _, f := range wrongFilters(t) {
		if _, e := b.subscribe(1, kind(t, "News"), f); e != api.ErrArg {
			t.Errorf("Subscribe with %v: %v", f, e)
		}
	}
	for s, want := range map[string]api.Errno{
		"z = 1": api.ErrNone, "has z": api.ErrNone, "a = true": api.ErrKind, `b = 1`: api.ErrKind, "c = 1 and has z": api.ErrKind, "has z and c = 1": api.ErrNone, `a prefix "x"`: api.ErrKind,
	} {
		if _, e := b.subscribe(1, kind(t, "News"), say(t, s)); e != want {
			t.Errorf("Subscribe with %q: %v, not %v", s, e, want)
		}
	}
	b.agrees()
	for i, s := range []string{"any", "a = 1", `B = "x" and A > 3 and has C`, "c != true"} {
		if n, e := b.subscribe(1, kind(t, "News"), say(t, s)); n != i+1 || e != api.OK {
			t.Errorf("Subscribe with %q: %d, %v", s, n, e)
		}
	}
	b.agrees()
}

// Promise 19.3: numbers of all sessions together; as many as there may be, of each one.
func TestManySubs(t *testing.T) {
	b := fresh(t)
	for range MaxSessions {
		b.open(1)
	}
	for i := range MaxSubs * MaxSessions {
		id := 1 + i%MaxSessions
		if n, e := b.subscribe(id, kind(t, []string{"News", "news", "Golf"}[i%3]), say(t, "a > "+strconv.Itoa(i%7))); n != i+1 || e != api.OK {
			t.Fatalf("%d: %d, %v", i, n, e)
		}
	}
	news := kind(t, "News")
	for id := range MaxSessions {
		if _, e := b.subscribe(id+1, news, nil); e != api.ErrFull {
			t.Errorf("Subscribe of one too many: %v", e)
		}
		if _, e := b.subscribe(id+1, news, say(t, "z = 1")); e != api.ErrNone {
			t.Errorf("Subscribe of one too many, to no field: %v", e)
		}
	}
	if _, e := b.subscribe(7, api.Type{}, nil); e != api.ErrArg {
		t.Errorf("Subscribe of one too many, to no type: %v", e)
	}
	if n, e := b.deliver("NEWS", told(1, 100)); n != MaxSessions || e != api.OK {
		t.Errorf("Deliver to all: %d, %v", n, e)
	}
	b.unsubscribe(7, 27)
	if n, e := b.subscribe(7, news, nil); n != 601 || e != api.OK {
		t.Errorf("Subscribe behind Unsubscribe: %d, %v", n, e)
	}
	b.close(7)
	if id, _ := b.open(1); id != 21 {
		t.Errorf("Open: %d", id)
	}
	if n, e := b.subscribe(21, news, nil); n != 602 || e != api.OK {
		t.Errorf("Subscribe behind Close: %d, %v", n, e)
	}
	b.agrees()
}

// Promise 19.3: Unsubscribe, and what stays of it.
func TestUnsubscribe(t *testing.T) {
	b := fresh(t)
	if _, e := b.unsubscribe(1, 1); e != api.ErrNone {
		t.Errorf("Unsubscribe in no session: %v", e)
	}
	b.open(2)
	b.open(2)
	one, _ := b.subscribe(1, kind(t, "NeWs"), nil)
	two, _ := b.subscribe(2, kind(t, "news"), nil)
	three, _ := b.subscribe(1, kind(t, "news"), nil)
	for i := range 3 {
		b.deliver("news", told(1+i, 1))
	}
	b.agrees()
	for _, x := range []struct{ id, sub int }{{1, two}, {2, one}, {2, three}, {1, 0}, {1, -1}, {1, 4}, {3, one}, {0, one}, {1, math.MaxInt}, {1, math.MinInt}} {
		if s, e := b.unsubscribe(x.id, x.sub); s != "" || e != api.ErrNone {
			t.Errorf("Unsubscribe(%d, %d): %q, %v", x.id, x.sub, s, e)
		}
	}
	b.agrees()
	if s, e := b.unsubscribe(1, one); s != "NeWs" || e != api.OK {
		t.Errorf("Unsubscribe: %q, %v", s, e)
	}
	if s, e := b.unsubscribe(1, one); s != "" || e != api.ErrNone {
		t.Errorf("Unsubscribe again: %q, %v", s, e)
	}
	b.agrees()
	if l := b.s.Peek(1); len(l) != 2 || l[0].Sub != one {
		t.Errorf("what was given is gone: %v", l)
	}
	if n, e := b.s.Over(1, one); n != 2 || e != api.OK {
		t.Errorf("what did not come in is forgotten: %d, %v", n, e)
	}
	b.poll(1, 9)
	b.deliver("news", told(9, 1))
	if l, _ := b.poll(1, 9); len(l) != 1 || l[0].Sub != three {
		t.Errorf("given behind Unsubscribe: %v", l)
	}
	b.agrees()
}

// shown are filters as texts.
func shown(l [][]api.Pred) (out []string) {
	for _, f := range l {
		out = append(out, filter.Show(f))
	}
	return out
}

// Promise 19.4: Wanted and Types.
func TestWanted(t *testing.T) {
	b := fresh(t)
	for range 3 {
		b.open(1)
	}
	for i, x := range []struct{ s, f string }{
		{"News", "a = 1"}, {"z", "any"}, {"NEWS", "a > 5"}, {"Émile", "has a"}, {"news", "a = 2"}, {"B.a", "a = 1"}, {"News", "a >= 7"}, {"_x", "any"}, {"b-a", "any"}, {"news.a", "any"},
	} {
		b.subscribe(3-i%3, kind(t, x.s), say(t, x.f))
	}
	b.agrees()
	if got := shown(b.s.Wanted("nEWS")); !slices.Equal(got, []string{"a in { 1 , 2 }", "a > 5"}) {
		t.Errorf("Wanted: %q", got)
	}
	if got := b.s.Types(); !slices.Equal(got, []string{"_x", "b-a", "b.a", "news", "news.a", "z", "émile"}) {
		t.Errorf("Types: %q", got)
	}
	for _, n := range append(wrongNames(), "Top", "b", "new", "none") {
		if got := b.s.Wanted(n); len(got) != 0 {
			t.Errorf("Wanted(%q): %v", n, got)
		}
	}
	b.unsubscribe(3, 1)
	b.unsubscribe(2, 2)
	if got := shown(b.s.Wanted("news")); !slices.Equal(got, []string{"a > 5", "a = 2"}) {
		t.Errorf("Wanted: %q", got)
	}
	b.close(3)
	if got := b.s.Types(); !slices.Equal(got, []string{"_x", "b-a", "b.a", "news"}) {
		t.Errorf("Types: %q", got)
	}
	b.agrees()
}

// Promise 19.4: up to api.MaxFilters stand as they are; more are one that asks nothing.
func TestWantedMuch(t *testing.T) {
	b := fresh(t)
	b.open(1)
	b.open(1)
	for i := range api.MaxFilters {
		b.subscribe(1, kind(t, "News"), say(t, "a != "+strconv.Itoa(i)))
	}
	if got := b.s.Wanted("News"); len(got) != api.MaxFilters {
		t.Errorf("Wanted: %d filters", len(got))
	}
	// More subscriptions, that are covered, don't count.
	for i := range 10 {
		b.subscribe(1, kind(t, "News"), say(t, "a = 1 and a != "+strconv.Itoa(100+i)))
	}
	if got := b.s.Wanted("News"); len(got) != api.MaxFilters {
		t.Errorf("Wanted: %d filters", len(got))
	}
	one, _ := b.subscribe(2, kind(t, "NEWS"), say(t, `b = "x"`))
	if got := b.s.Wanted("News"); len(got) != 1 || len(got[0]) != 0 || !filter.Check(got[0]) {
		t.Errorf("Wanted: %v", got)
	}
	b.agrees()
	// What asks nothing lets more by, but no more is given.
	if n, e := b.deliver("News", api.Event{ID: by(1), Type: "News", Attrs: []api.Attr{{Name: "c", V: api.Value{Kind: api.KindBool}}}}); n != 0 || e != api.OK {
		t.Errorf("Deliver: %d, %v", n, e)
	}
	b.unsubscribe(2, one)
	if got := b.s.Wanted("News"); len(got) != api.MaxFilters {
		t.Errorf("Wanted: %d filters", len(got))
	}
	b.agrees()
}

// Promise 19.5: Deliver's errors, and that none of them lets an event be known.
func TestWrongDelivers(t *testing.T) {
	b := fresh(t)
	b.open(9)
	b.subscribe(1, kind(t, "News"), nil)
	for _, s := range wrongNames() {
		if _, e := b.deliver(s, told(1, 1)); e != api.ErrArg {
			t.Errorf("Deliver to %q: %v", s, e)
		}
	}
	for _, x := range wrongEvents() {
		if _, e := b.deliver("News", x); e != api.ErrArg {
			t.Errorf("Deliver of %v: %v", x, e)
		}
	}
	b.agrees()
	if n, e := b.deliver("News", told(1, 1)); n != 1 || e != api.OK {
		t.Errorf("Deliver: %d, %v", n, e)
	}
	for _, x := range wrongEvents() {
		if _, e := b.deliver("News", x); e != api.ErrArg {
			t.Errorf("Deliver of %v again: %v", x, e)
		}
	}
	b.agrees()
}

// Promise 19.5: an event is known by its identity, of each type for itself, whether somebody wanted it or not.
func TestKnown(t *testing.T) {
	b := fresh(t)
	if n, e := b.deliver("News", told(1, 1)); n != 0 || e != api.OK {
		t.Errorf("Deliver to nobody: %d, %v", n, e)
	}
	b.open(20)
	b.subscribe(1, kind(t, "News"), say(t, "a > 1"))
	b.subscribe(1, kind(t, "Golf"), nil)
	other := told(1, 7)
	other.Type = "Golf"
	for _, x := range []struct {
		of string
		x  api.Event
		n  int
		e  api.Errno
	}{
		{"news", told(1, 1), 0, api.ErrThere}, {"NEWS", other, 0, api.ErrThere}, {"Golf", told(1, 1), 1, api.OK}, {"GOLF", told(1, 1), 0, api.ErrThere}, {"none", told(1, 1), 0, api.OK}, {"None", told(1, 1), 0, api.ErrThere},
		{"News", told(2, 1), 0, api.OK}, {"News", told(2, 5), 0, api.ErrThere}, {"NeWs", told(3, 5), 1, api.OK},
		{"News", api.Event{ID: api.ID{Node: 2, Life: 1, Seq: 1}, Type: "x", Attrs: told(1, 5).Attrs}, 1, api.OK},
		{"News", api.Event{ID: api.ID{Node: 1, Life: 2, Seq: 1}, Type: "x", Attrs: told(1, 5).Attrs}, 1, api.OK},
		{"News", api.Event{ID: api.ID{Node: 1, Life: 1, Seq: api.MaxCount}, Type: "x", Attrs: told(1, 5).Attrs}, 1, api.OK},
	} {
		if n, e := b.deliver(x.of, x.x); n != x.n || e != x.e {
			t.Errorf("Deliver(%q, %v): %d, %v, not %d, %v", x.of, x.x, n, e, x.n, x.e)
		}
		b.agrees()
	}
	if l := b.s.Peek(1); l[1].Of != "NeWs" || l[1].X.Type != "News.Sport" {
		t.Errorf("what was given is not as it was handed in: %v", l[1])
	}
}

// Promise 19.5: offered by the subscriptions' numbers, as far as there is room; Poll, Peek and Over.
func TestDeliver(t *testing.T) {
	b := fresh(t)
	for _, room := range []int{2, 9, 1} {
		b.open(room)
	}
	for i, id := range []int{2, 1, 3, 2, 1, 1, 3} {
		b.subscribe(id, kind(t, "News"), say(t, "a >= "+strconv.Itoa(i)))
	}
	if n, _ := b.deliver("News", told(1, 9)); n != 5 {
		t.Errorf("Deliver: %d", n)
	}
	for id, want := range map[int][]int{1: {2, 5}, 2: {1, 4}, 3: {3}} {
		var subs []int
		for _, g := range b.s.Peek(id) {
			subs = append(subs, g.Sub)
		}
		if !slices.Equal(subs, want) {
			t.Errorf("Peek(%d): %v", id, subs)
		}
	}
	b.agrees()
	for sub, want := range map[int]int{2: 0, 5: 0, 6: 1, 7: 0, 99: 0, 0: 0} {
		if n, e := b.s.Over(1, sub); n != want || e != api.OK {
			t.Errorf("Over(1, %d): %d, %v", sub, n, e)
		}
	}
	if n, _ := b.deliver("News", told(2, 3)); n != 2 {
		t.Errorf("Deliver: %d", n)
	}
	for _, x := range []struct{ id, most, count int }{{1, 0, 0}, {1, -1, 0}, {1, 1, 1}, {1, math.MaxInt, 1}, {1, 5, 0}, {2, 3, 3}, {2, 3, 1}, {3, math.MinInt, 0}, {3, 2, 1}} {
		if l, e := b.poll(x.id, x.most); len(l) != x.count || e != api.OK {
			t.Errorf("Poll(%d, %d): %d, %v", x.id, x.most, len(l), e)
		}
		b.agrees()
	}
	for _, id := range []int{0, -1, 4, math.MaxInt, math.MinInt} {
		if l, e := b.poll(id, 5); l != nil || e != api.ErrNone {
			t.Errorf("Poll(%d): %v, %v", id, l, e)
		}
		if l := b.s.Peek(id); l != nil {
			t.Errorf("Peek(%d): %v", id, l)
		}
		if n, e := b.s.Over(id, 1); n != 0 || e != api.ErrNone {
			t.Errorf("Over(%d): %d, %v", id, n, e)
		}
	}
}

// Promise 19.5: no sessions.
func TestNil(t *testing.T) {
	var s *Sessions
	news := kind(t, "News")
	open, e1 := s.Open(1)
	sub, e2 := s.Subscribe(1, news, nil)
	title, e3 := s.Unsubscribe(1, 1)
	taken, e4 := s.Deliver("News", told(1, 1))
	given, e5 := s.Poll(1, 1)
	over, e6 := s.Over(1, 1)
	for i, e := range []api.Errno{e1, e2, e3, e4, e5, e6, s.Close(1), s.Advertise(1, news), s.Withdraw(1, "News")} {
		if e != api.ErrArg {
			t.Errorf("%d: %v", i, e)
		}
	}
	if open != 0 || sub != 0 || title != "" || taken != 0 || given != nil || over != 0 {
		t.Errorf("no sessions answer something")
	}
	if x, is := s.Ad(1, "News"); is || !forest.Same(x, api.Type{}) || s.IsOpen(1) {
		t.Errorf("no sessions have something")
	}
	if s.Wanted("News") != nil || s.Types() != nil || s.Peek(1) != nil || s.Subs(1) != nil {
		t.Errorf("no sessions have something")
	}
}

// anyFilter fits the types of these tests, mostly.
func anyFilter(t *testing.T, r *rand.Rand) []api.Pred {
	texts := []string{"any", "has b", "z = 1", `a = "x"`, "c = true and a < 5"}
	for i := range 5 {
		n := strconv.Itoa(i)
		texts = append(texts, "a = "+n, "a > "+n, "a != "+n+" and has b", "a in {"+n+", 7}", "a <= "+n+" and a != 2")
	}
	return say(t, texts[r.Intn(len(texts))])
}

func anyEvent(r *rand.Rand) api.Event {
	x := told(1+r.Intn(40), r.Intn(8))
	x.ID.Node += r.Intn(2)
	if r.Intn(2) == 0 {
		x.Attrs = append(x.Attrs, api.Attr{Name: "b", V: api.Value{Kind: api.KindText, S: "x"}})
	}
	return x
}

// anything does something to both: what it took.
func (b both) anything(r *rand.Rand) (taken []api.Given) {
	b.Helper()
	title := []string{"News", "NEWS", "news", "Golf", "gOLF", "Émile.x-1"}[r.Intn(6)]
	id, sub := r.Intn(len(b.m.sessions)+2), r.Intn(len(b.m.subs)+2)
	switch r.Intn(20) {
	case 0, 1:
		b.open(r.Intn(5))
	case 2:
		if r.Intn(4) == 0 {
			b.close(id)
		}
	case 3:
		b.advertise(id, kind(b.T, title))
	case 4:
		b.withdraw(id, title)
	case 5, 6, 7, 8:
		b.subscribe(id, kind(b.T, title), anyFilter(b.T, r))
	case 9:
		b.unsubscribe(id, sub)
	case 10:
		if sub >= 1 && sub <= len(b.m.subs) {
			b.unsubscribe(b.m.subs[sub-1].session, sub)
		}
	case 11, 12, 13:
		taken, _ = b.poll(id, r.Intn(5)-1)
	default:
		b.deliver(title, anyEvent(r))
	}
	return taken
}

// Promise 19.6: whatever is done, each event is offered to a subscription once at most, and what is wanted lets by just what a filter does.
func TestWhateverIsDone(t *testing.T) {
	r := rand.New(rand.NewSource(196))
	for range 200 {
		b := fresh(t)
		var given []api.Given
		for range 150 {
			given = append(given, b.anything(r)...)
		}
		b.agrees()
		for i := range b.m.sessions {
			given = append(given, b.s.Peek(i+1)...)
		}
		b.givenOnce(given)
		for _, n := range b.s.Types() {
			for range 20 {
				a := anyEvent(r).Attrs
				if few, many := letsOne(b.s.Wanted(n), a), letsOne(b.m.filters(n), a); few != many {
					t.Fatalf("Wanted(%q): %q; %v is let by: %v", n, shown(b.s.Wanted(n)), a, few)
				}
			}
		}
	}
}

func letsOne(l [][]api.Pred, a []api.Attr) bool {
	return slices.ContainsFunc(l, func(f []api.Pred) bool { return filter.Lets(f, a) })
}

// givenOnce tells what was given twice, or to one that does not want it.
func (b both) givenOnce(l []api.Given) {
	b.Helper()
	type offer struct {
		sub int
		id  api.ID
	}
	seen := map[offer]int{}
	for _, g := range l {
		if seen[offer{g.Sub, g.X.ID}]++; seen[offer{g.Sub, g.X.ID}] > 1 {
			b.Fatalf("%v is given twice", g)
		}
		if w := b.m.subs[g.Sub-1]; !name.Same(w.t.Name, g.Of) || !filter.Lets(w.f, g.X.Attrs) {
			b.Fatalf("%v is given, but not wanted", g)
		}
	}
}

// Rule R3: what is handed in is not kept, what is answered is new memory.
func TestMemory(t *testing.T) {
	b := fresh(t)
	b.open(9)
	b.open(9)
	news := kind(t, "News")
	b.advertise(1, news)
	spoilType(news)
	b.agrees()
	x, _ := b.s.Ad(1, "News")
	spoilType(x)
	b.agrees()
	news = kind(t, "News")
	for id := range 2 {
		f := say(t, "a in {1, 2, 3} and a != 9")
		b.subscribe(id+1, news, f)
		spoilFilter(f)
	}
	spoilType(news)
	b.agrees()
	one, other := b.s.Wanted("News"), b.s.Wanted("News")
	for _, f := range one {
		spoilFilter(f)
	}
	clear(one)
	b.agrees()
	if !slices.EqualFunc(other, b.m.wanted("News"), filter.Same) {
		t.Errorf("two answers share memory: %v", other)
	}
	for i := range 4 {
		e := told(i+1, 1)
		b.deliver("News", e)
		clear(e.Attrs)
		b.agrees()
	}
	for _, l := range [][]api.Given{b.s.Peek(1), b.s.Peek(2)} {
		for _, g := range l {
			clear(g.X.Attrs)
		}
		clear(l)
		b.agrees()
	}
	taken, _ := b.s.Poll(1, 2)
	b.m.poll(1, 2)
	for _, g := range taken {
		clear(g.X.Attrs)
	}
	clear(taken[:cap(taken)])
	b.agrees()
	clear(b.s.Subs(1))
	clear(b.s.Types())
	b.agrees()
}

// The chapter's example.
func TestExample(t *testing.T) {
	s := New()
	id, _ := s.Open(5)
	s.Subscribe(id, kind(t, "News"), nil)
	s.Subscribe(id, kind(t, "News"), say(t, "a = 1"))
	if n, e := s.Deliver("News", told(1, 2)); n != 1 || e != api.OK {
		t.Errorf("Deliver: %d, %v", n, e)
	}
	if n, e := s.Deliver("News", told(1, 2)); n != 0 || e != api.ErrThere {
		t.Errorf("Deliver again: %d, %v", n, e)
	}
	if w := s.Wanted("News"); !slices.Equal(shown(w), []string{"any"}) {
		t.Errorf("Wanted: %v", w)
	}
}
