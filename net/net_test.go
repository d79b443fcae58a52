package net

import (
	"math"
	"math/rand"
	"slices"
	"strings"
	"testing"

	"caduceus/api"
	"caduceus/wire"
)

func packet(from, to, seq int) api.Packet {
	return api.Packet{From: from, To: to, FromLife: 1, ToLife: 2, Seq: seq, Ack: seq / 2, Text: strings.Repeat("x", seq%5)}
}

func hop(from, to int) api.Hop { return api.Hop{From: from, To: to} }

// hops: all that there may be, by From, then To.
func hops() (l []api.Hop) {
	for from := 1; from <= api.MaxNode; from++ {
		for to := 1; to <= api.MaxNode; to++ {
			if from != to {
				l = append(l, hop(from, to))
			}
		}
	}
	return l
}

var wrongHops = []api.Hop{{}, {From: 1}, {To: 1}, {From: 1, To: 1}, {From: api.MaxNode, To: api.MaxNode}, {From: api.MaxNode + 1, To: 1}, {From: 1, To: api.MaxNode + 1}, {From: -1, To: 1}, {From: 1, To: -1}, {From: math.MaxInt, To: math.MinInt}, {From: 2, To: math.MaxInt}}

// full: a net that has as many packets as there may be, of 1 to 2, and of 3 to 4.
func full(t *testing.T) *Net {
	n := New()
	for i := range api.MaxWay {
		from := 1 + 2*(i%2)
		if e := n.Send(packet(from, from+1, 1+i)); e != api.OK {
			t.Fatalf("Send %d: %v", i, e)
		}
	}
	return n
}

// model: all packets, those of each row in its order.
type model struct {
	l     []api.Packet
	apart map[api.Hop]int
}

func (m *model) row(h api.Hop) (l []api.Packet) {
	for _, p := range m.l {
		if hop(p.From, p.To) == h {
			l = append(l, p)
		}
	}
	return l
}

// place: where the i-th packet of a hop stands among all; -1, if there is none.
func (m *model) place(h api.Hop, i int) int {
	for at, p := range m.l {
		if hop(p.From, p.To) != h {
			continue
		}
		if i == 0 {
			return at
		}
		i--
	}
	return -1
}

func (m *model) hops() (l []api.Hop) {
	for _, h := range hops() {
		if len(m.row(h)) > 0 && m.apart[h] == 0 {
			l = append(l, h)
		}
	}
	return l
}

// agrees tells what a net answers otherwise than a model, and whether it keeps what is not under way.
func agrees(t *testing.T, n *Net, m *model) {
	t.Helper()
	if n.Count() != len(m.l) || !slices.Equal(n.Hops(), m.hops()) {
		t.Fatalf("Count %d, not %d; Hops %v, not %v", n.Count(), len(m.l), n.Hops(), m.hops())
	}
	for _, h := range hops() {
		if want := m.row(h); n.Len(h) != len(want) || !slices.Equal(n.Row(h), want) || n.Cut(h.From, h.To) != (m.apart[h] == 1) {
			t.Fatalf("%v: %d, %v, %v, not %v", h, n.Len(h), n.Row(h), n.Cut(h.From, h.To), want)
		}
		row := n.rows[h.From][h.To]
		for _, p := range row[len(row):cap(row)] {
			if p != (api.Packet{}) {
				t.Fatalf("%v keeps %v", h, p)
			}
		}
	}
}

// Promise 12.1: a net has no packets at first.
func TestNew(t *testing.T) {
	agrees(t, New(), &model{})
	a, b := New(), New()
	if a.Send(packet(1, 2, 1)); b.Count() != 0 {
		t.Errorf("two nets are one")
	}
}

// Promise 12.1: Send, Count, Len, Row.
func TestSend(t *testing.T) {
	n, m := New(), &model{}
	for i, h := range slices.Concat(hops(), hops()[:50]) {
		p := packet(h.From, h.To, i)
		if i%5 == 0 {
			p.Seq, p.Text = 0, ""
		}
		if e := n.Send(p); e != api.OK {
			t.Fatalf("Send %v: %v", p, e)
		}
		m.l = append(m.l, p)
	}
	agrees(t, n, m)
	for _, h := range wrongHops {
		if e := n.Send(packet(h.From, h.To, 1)); e != api.ErrArg || n.Len(h) != 0 || len(n.Row(h)) != 0 {
			t.Errorf("%v: %v, %d, %v", h, e, n.Len(h), n.Row(h))
		}
	}
	for i, do := range []func(*api.Packet){
		func(p *api.Packet) { p.FromLife = 0 }, func(p *api.Packet) { p.ToLife = api.MaxCount + 1 }, func(p *api.Packet) { p.Seq = 0 }, func(p *api.Packet) { p.Ack = -1 },
		func(p *api.Packet) { p.Text = strings.Repeat("x", api.MaxPayload+1) }, func(p *api.Packet) { *p = api.Packet{} },
	} {
		p := packet(1, 2, 1)
		if do(&p); wire.CheckPacket(p) || n.Send(p) != api.ErrArg {
			t.Errorf("Send of a packet that may not be, %d: %v", i, p)
		}
	}
	agrees(t, n, m)
}

// Promises 12.1, 12.2: there are at most api.MaxWay packets, of all rows together.
func TestFull(t *testing.T) {
	n := full(t)
	if n.Count() != api.MaxWay || n.Len(hop(1, 2)) != api.MaxWay/2 {
		t.Fatalf("%d packets", n.Count())
	}
	for _, p := range []api.Packet{packet(1, 2, 1), packet(2, 1, 1), packet(14, 15, 9)} {
		if e := n.Send(p); e != api.ErrFull || n.Count() != api.MaxWay {
			t.Errorf("Send: %v", e)
		}
	}
	if e := n.Send(packet(1, 1, 1)); e != api.ErrArg {
		t.Errorf("ErrArg comes ahead: %v", e)
	}
	if e := n.Twice(hop(1, 2), 0); e != api.ErrFull || n.Len(hop(1, 2)) != api.MaxWay/2 {
		t.Errorf("Twice: %v", e)
	}
	if e := n.Twice(hop(1, 2), api.MaxWay/2); e != api.ErrNone {
		t.Errorf("ErrNone comes ahead: %v", e)
	}
	if e := n.Twice(hop(2, 1), 0); e != api.ErrNone {
		t.Errorf("ErrNone of an empty row comes ahead: %v", e)
	}
	if e := n.Twice(hop(1, 1), 0); e != api.ErrArg {
		t.Errorf("ErrArg comes ahead: %v", e)
	}
	for i, room := range []func(){
		func() { n.Lose(hop(1, 2), 5) },
		func() { n.Take(hop(3, 4), 0) },
	} {
		if room(); n.Count() != api.MaxWay-1 {
			t.Fatalf("%d: %d packets", i, n.Count())
		}
		if e := n.Twice(hop(1, 2), 0); e != api.OK || n.Count() != api.MaxWay || n.Send(packet(1, 2, 3)) != api.ErrFull {
			t.Errorf("%d: room for one: %v, %d", i, e, n.Count())
		}
	}
	if gone := n.Clear(3); gone != api.MaxWay/2-1 || n.Send(packet(3, 4, 1)) != api.OK {
		t.Errorf("Clear: %d", gone)
	}
}

// Promise 12.2: the errors of Take, Lose and Twice, and that these change nothing.
func TestErrors(t *testing.T) {
	n, m := New(), &model{apart: map[api.Hop]int{}}
	for i := range 3 {
		m.l = append(m.l, packet(1, 2, 1+i))
		n.Send(m.l[i])
	}
	asks := func(h api.Hop, i int, taken, others api.Errno) {
		t.Helper()
		if p, e := n.Take(h, i); e != taken || p != (api.Packet{}) {
			t.Errorf("Take(%v, %d): %v, %v", h, i, p, e)
		}
		if others == api.OK {
			return
		}
		if e := n.Lose(h, i); e != others {
			t.Errorf("Lose(%v, %d): %v", h, i, e)
		}
		if e := n.Twice(h, i); e != others {
			t.Errorf("Twice(%v, %d): %v", h, i, e)
		}
	}
	for _, on := range []bool{false, true} {
		n.Apart(1, 2, on)
		for _, h := range wrongHops {
			asks(h, 0, api.ErrArg, api.ErrArg)
			asks(h, -1, api.ErrArg, api.ErrArg)
		}
		for _, i := range []int{-1, 3, 4, math.MaxInt, math.MinInt} {
			asks(hop(1, 2), i, api.ErrNone, api.ErrNone)
		}
		asks(hop(2, 1), 0, api.ErrNone, api.ErrNone)
		asks(hop(14, 15), 0, api.ErrNone, api.ErrNone)
	}
	for i := range 3 {
		asks(hop(1, 2), i, api.ErrDown, api.OK)
	}
	m.apart[hop(1, 2)], m.apart[hop(2, 1)] = 1, 1
	agrees(t, n, m)
}

// Promise 12.2: each place of a row can be taken, lost and doubled; the others stay in their order.
func TestPlaces(t *testing.T) {
	const most = 6
	for size := 1; size <= most; size++ {
		for i := range size {
			for what := range 3 {
				n, m := New(), &model{}
				for k := range size {
					m.l = append(m.l, packet(1, 2, 1+k))
					n.Send(m.l[k])
				}
				p, e, memory := m.l[i], api.OK, n.rows[1][2]
				switch what {
				case 0:
					p, e = n.Take(hop(1, 2), i)
				case 1:
					e = n.Lose(hop(1, 2), i)
				case 2:
					e = n.Twice(hop(1, 2), i)
				}
				if e != api.OK || p != m.l[i] {
					t.Fatalf("%d of %d, %d: %v, %v", i, size, what, p, e)
				}
				if what == 2 {
					m.l = append(m.l, p)
				} else {
					m.l = slices.Delete(m.l, i, i+1)
					// The row may go on in the memory that it had: the packet is not kept there.
					if memory[i] != (api.Packet{}) {
						t.Fatalf("%d of %d, %d: %v is kept", i, size, what, memory[i])
					}
				}
				agrees(t, n, m)
				m.l = append(m.l, packet(1, 2, 99))
				n.Send(packet(1, 2, 99))
				agrees(t, n, m)
			}
		}
	}
}

// The chapter's example.
func TestExample(t *testing.T) {
	n := New()
	n.Send(packet(1, 2, 1))
	n.Send(packet(1, 2, 2))
	if e := n.Twice(hop(1, 2), 0); e != api.OK {
		t.Errorf("Twice: %v", e)
	}
	if p, e := n.Take(hop(1, 2), 2); e != api.OK || p != packet(1, 2, 1) {
		t.Errorf("Take: %v, %v", p, e)
	}
	n.Apart(2, 1, true)
	if p, e := n.Take(hop(1, 2), 0); e != api.ErrDown || p != (api.Packet{}) {
		t.Errorf("Take of those that are apart: %v, %v", p, e)
	}
}

// Promises 12.1, 12.3: Apart, either way, and Cut; what is under way stays, can be lost, doubled and sent.
func TestApart(t *testing.T) {
	for _, h := range hops() {
		n, m := New(), &model{apart: map[api.Hop]int{}}
		for i, p := range []api.Packet{packet(h.From, h.To, 1), packet(h.To, h.From, 2)} {
			m.l = append(m.l, p)
			if e := n.Send(p); e != api.OK {
				t.Fatalf("Send %d: %v", i, e)
			}
		}
		for range 2 {
			if e := n.Apart(h.From, h.To, true); e != api.OK {
				t.Fatalf("Apart: %v", e)
			}
			m.apart = map[api.Hop]int{h: 1, hop(h.To, h.From): 1}
			agrees(t, n, m)
		}
		if n.Send(m.l[0]) != api.OK || n.Twice(h, 0) != api.OK || n.Lose(h, 0) != api.OK || n.Len(h) != 2 {
			t.Fatalf("%v are apart: %v", h, n.Row(h))
		}
		m.l = append(m.l, m.l[0])
		if _, e := n.Take(hop(h.To, h.From), 0); e != api.ErrDown {
			t.Fatalf("Take the other way: %v", e)
		}
		for range 2 {
			if e := n.Apart(h.To, h.From, false); e != api.OK {
				t.Fatalf("Apart, no more: %v", e)
			}
			m.apart = nil
			agrees(t, n, m)
		}
		if p, e := n.Take(h, 0); e != api.OK || p != m.l[0] {
			t.Fatalf("Take behind that: %v, %v", p, e)
		}
	}
	n := New()
	for _, h := range wrongHops {
		for _, on := range []bool{true, false} {
			if e := n.Apart(h.From, h.To, on); e != api.ErrArg || n.Cut(h.From, h.To) {
				t.Errorf("Apart(%v, %v): %v", h, on, e)
			}
		}
	}
	agrees(t, n, &model{})
}

// Promise 12.3: Clear.
func TestClear(t *testing.T) {
	for node := -1; node <= api.MaxNode+2; node++ {
		n, m := New(), &model{apart: map[api.Hop]int{hop(1, 2): 1, hop(2, 1): 1}}
		n.Apart(1, 2, true)
		var left []api.Packet
		for i, h := range slices.Concat(hops(), hops()[:20]) {
			p := packet(h.From, h.To, 1+i)
			n.Send(p)
			if m.l = append(m.l, p); h.From != node && h.To != node {
				left = append(left, p)
			}
		}
		if gone := n.Clear(node); gone != len(m.l)-len(left) {
			t.Errorf("Clear(%d): %d, not %d", node, gone, len(m.l)-len(left))
		}
		m.l = left
		agrees(t, n, m)
		if gone := n.Clear(node); gone != 0 {
			t.Errorf("Clear(%d) once more: %d", node, gone)
		}
	}
	n := full(t)
	for _, node := range []int{0, math.MaxInt, math.MinInt} {
		if n.Clear(node) != 0 || n.Count() != api.MaxWay {
			t.Errorf("Clear(%d)", node)
		}
	}
	if gone := n.Clear(2); gone != api.MaxWay/2 || n.Count() != api.MaxWay/2 {
		t.Errorf("Clear(2): %d", gone)
	}
}

// Promise 12.3: a nil net.
func TestNil(t *testing.T) {
	var n *Net
	h := hop(1, 2)
	if n.Send(packet(1, 2, 1)) != api.ErrArg || n.Lose(h, 0) != api.ErrArg || n.Twice(h, 0) != api.ErrArg || n.Apart(1, 2, true) != api.ErrArg {
		t.Errorf("a nil net answers no ErrArg")
	}
	if p, e := n.Take(h, 0); e != api.ErrArg || p != (api.Packet{}) {
		t.Errorf("Take: %v, %v", p, e)
	}
	if n.Count() != 0 || n.Len(h) != 0 || n.Clear(1) != 0 || len(n.Hops()) != 0 || len(n.Row(h)) != 0 || n.Cut(1, 2) {
		t.Errorf("a nil net has something")
	}
}

// Rule R3: rows and hops that are handed out are new memory.
func TestRowShares(t *testing.T) {
	n, m := New(), &model{}
	for i := range 4 {
		m.l = append(m.l, packet(1, 2, 1+i))
		n.Send(m.l[i])
	}
	row, ways := n.Row(hop(1, 2)), n.Hops()
	n.Lose(hop(1, 2), 3)
	n.Take(hop(1, 2), 0)
	n.Send(packet(1, 2, 9))
	if !slices.Equal(row, m.l) || ways[0] != hop(1, 2) {
		t.Errorf("what was handed out is changed: %v, %v", row, ways)
	}
	m.l = []api.Packet{m.l[1], m.l[2], packet(1, 2, 9)}
	for _, row := range [][]api.Packet{row, n.Row(hop(1, 2))} {
		for i := range row {
			row[i] = api.Packet{}
		}
		_ = append(row[:1], packet(3, 4, 5))
	}
	ways[0] = hop(3, 4)
	agrees(t, n, m)
}

// Promise 12.4: whatever is done, a net answers as a model, and packets are taken at most as often as they were sent and doubled.
func TestWhatFollows(t *testing.T) {
	r := rand.New(rand.NewSource(12))
	for round := range 20 {
		n, m := New(), &model{apart: map[api.Hop]int{}}
		nodes, sent, taken := 2+r.Intn(3), map[api.Packet]int{}, map[api.Packet]int{}
		for step := range 600 {
			h, i := hop(1+r.Intn(nodes), 1+r.Intn(nodes)), r.Intn(6)-1
			if !isHop(h) {
				continue
			}
			at, e := -1, api.OK
			if i >= 0 {
				at = m.place(h, i)
			}
			switch what := r.Intn(20); {
			case what < 10:
				p := packet(h.From, h.To, 1+r.Intn(9))
				e = n.Send(p)
				m.l, sent[p] = append(m.l, p), sent[p]+1
			case what < 13:
				var p api.Packet
				if p, e = n.Take(h, i); at >= 0 && m.apart[h] == 0 {
					if taken[p]++; p != m.l[at] || taken[p] > sent[p] {
						t.Fatalf("%d, %d: %v was taken", round, step, p)
					}
					m.l = slices.Delete(m.l, at, at+1)
				} else if at >= 0 && e == api.ErrDown || at < 0 && e == api.ErrNone {
					e = api.OK
				}
			case what < 15 && at >= 0:
				e = n.Lose(h, i)
				m.l = slices.Delete(m.l, at, at+1)
			case what < 17 && at >= 0:
				e = n.Twice(h, i)
				m.l, sent[m.l[at]] = append(m.l, m.l[at]), sent[m.l[at]]+1
			case what < 19:
				on := r.Intn(2)
				e = n.Apart(h.From, h.To, on == 1)
				m.apart[h], m.apart[hop(h.To, h.From)] = on, on
			case r.Intn(6) == 0:
				n.Clear(h.From)
				m.l = slices.DeleteFunc(m.l, func(p api.Packet) bool { return p.From == h.From || p.To == h.From })
			}
			if e != api.OK {
				t.Fatalf("%d, %d: %v", round, step, e)
			}
			if step%10 == 0 {
				agrees(t, n, m)
			}
		}
		agrees(t, n, m)
	}
}
