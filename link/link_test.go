package link

import (
	"math"
	"math/rand"
	"slices"
	"strconv"
	"strings"
	"testing"

	"caduceus/api"
	"caduceus/wire"
)

// here and there: the ends of one link, whose numbers begin with first.
func here(first int) api.Ends { return api.Ends{Me: 1, Life: 4, Peer: 2, PeerLife: 3, First: first} }
func there(first int) api.Ends {
	return api.Ends{Me: 2, Life: 3, Peer: 1, PeerLife: 4, First: first}
}

// comes: a packet that comes to here.
func comes(seq, ack int, text string) api.Packet {
	return api.Packet{From: 2, To: 1, FromLife: 3, ToLife: 4, Seq: seq, Ack: ack, Text: text}
}

// goes: a packet that goes out of here.
func goes(seq, ack int, text string) api.Packet {
	return api.Packet{From: 1, To: 2, FromLife: 4, ToLife: 3, Seq: seq, Ack: ack, Text: text}
}

// plain is an end as the chapter's words tell it: all that was ever sent, and all that ever came.
type plain struct {
	x     api.Ends
	sent  []string
	acked int // how many left the queue
	out   int // how many went out, those that left among them
	came  map[int]string
	wants int
}

func plainOf(x api.Ends) *plain { return &plain{x: x, came: map[int]string{}, wants: x.First} }

func (m *plain) packet(seq int, text string) api.Packet {
	return api.Packet{From: m.x.Me, To: m.x.Peer, FromLife: m.x.Life, ToLife: m.x.PeerLife, Seq: seq, Ack: m.wants - 1, Text: text}
}

func (m *plain) goOut() (l []api.Packet) {
	for m.out < len(m.sent) && m.out-m.acked < 8 {
		l = append(l, m.packet(m.x.First+m.out, m.sent[m.out]))
		m.out++
	}
	return l
}

func (m *plain) send(s string) ([]api.Packet, api.Errno) {
	switch {
	case len(s) > 32768:
		return nil, api.ErrArg
	case m.x.First+len(m.sent) >= api.MaxCount:
		return nil, api.ErrMuch
	case len(m.sent)-m.acked == 64:
		return nil, api.ErrFull
	}
	m.sent = append(m.sent, s)
	return m.goOut(), api.OK
}

func (m *plain) take(p api.Packet) (texts []string, l []api.Packet, e api.Errno) {
	if !wire.CheckPacket(p) || p.From != m.x.Peer || p.To != m.x.Me {
		return nil, nil, api.ErrArg
	}
	if p.FromLife != m.x.PeerLife || p.ToLife != m.x.Life {
		return nil, nil, api.ErrNone
	}
	if n := p.Ack - m.x.First + 1; n > m.acked && n <= m.out {
		m.acked = n
	}
	if p.Seq != 0 && p.Seq >= m.wants && p.Seq-m.wants < 8 {
		if _, is := m.came[p.Seq]; !is {
			m.came[p.Seq] = p.Text
		}
	}
	for ; p.Seq != 0 && m.wants != api.MaxCount; m.wants++ {
		s, is := m.came[m.wants]
		if !is {
			break
		}
		texts = append(texts, s)
	}
	if l = m.goOut(); len(l) == 0 && p.Seq != 0 {
		l = []api.Packet{m.packet(0, "")}
	}
	return texts, l, api.OK
}

func (m *plain) tick() (l []api.Packet) {
	for i := m.acked; i < m.out; i++ {
		l = append(l, m.packet(m.x.First+i, m.sent[i]))
	}
	return l
}

// agrees tells what a link answers otherwise than its words, and whether it keeps what has no more use.
func agrees(t *testing.T, l *Link, m *plain) {
	t.Helper()
	early := 0
	for seq := range m.came {
		if seq >= m.wants {
			early++
		}
	}
	if left, base := len(m.sent)-m.acked, m.x.First+m.acked; l.Left() != left || l.Base() != base || l.Wants() != m.wants || l.Early() != early || l.Ends() != m.x {
		t.Fatalf("%d left, base %d, wants %d, %d early, of %v; not %d, %d, %d, %d, %v", l.Left(), l.Base(), l.Wants(), l.Early(), l.Ends(), left, base, m.wants, early, m.x)
	}
	if out := l.Tick(); !slices.Equal(out, m.tick()) {
		t.Fatalf("Tick: %v, not %v", brief(out...), brief(m.tick()...))
	}
	for _, s := range l.queue[len(l.queue):cap(l.queue)] {
		if s != "" {
			t.Fatalf("a text of %d bytes is kept", len(s))
		}
	}
}

// brief: packets whose texts are cut, to be told.
func brief(l ...api.Packet) []api.Packet {
	l = slices.Clone(l)
	for i, p := range l {
		l[i].Text = strconv.Quote(p.Text[:min(len(p.Text), 20)])
	}
	return l
}

// sends lets an end and its words send a text.
func sends(t *testing.T, l *Link, m *plain, s string) ([]api.Packet, api.Errno) {
	t.Helper()
	out, e := l.Send(s)
	if want, no := m.send(s); e != no || !slices.Equal(out, want) {
		t.Fatalf("Send: %v, %v, not %v, %v", brief(out...), e, brief(want...), no)
	}
	agrees(t, l, m)
	return out, e
}

// takes lets a packet come to an end and its words.
func takes(t *testing.T, l *Link, m *plain, p api.Packet) (texts []string, out []api.Packet, e api.Errno) {
	t.Helper()
	texts, out, e = l.Take(p)
	if saying, want, no := m.take(p); e != no || !slices.Equal(texts, saying) || !slices.Equal(out, want) {
		t.Fatalf("Take(%v): %q, %v, %v, not %q, %v, %v", brief(p), texts, brief(out...), e, saying, brief(want...), no)
	}
	agrees(t, l, m)
	return texts, out, e
}

func letter(i int) string { return string(rune('a' + i)) }

// filled: an end that sent so many texts, and its words.
func filled(t *testing.T, first, count int) (*Link, *plain) {
	t.Helper()
	l, m := New(here(first)), plainOf(here(first))
	for i := range count {
		if _, e := sends(t, l, m, letter(i)); e != api.OK {
			t.Fatalf("Send %d: %v", i, e)
		}
	}
	return l, m
}

func TestLimits(t *testing.T) {
	if Window != 8 || MaxQueue != 64 {
		t.Errorf("%d, %d", Window, MaxQueue)
	}
}

// Promise 13.1: which ends may be, and how a link begins.
func TestNew(t *testing.T) {
	for _, x := range []api.Ends{
		here(1), there(1), here(2), here(api.MaxCount - 1), here(api.MaxCount), {Me: 1, Life: 1, Peer: api.MaxNode, PeerLife: api.MaxCount, First: 1}, {Me: api.MaxNode, Life: api.MaxCount, Peer: 1, PeerLife: 1, First: 7},
	} {
		l := New(x)
		if l == nil {
			t.Fatalf("%v may be", x)
		}
		if l.Ends() != x || l.Left() != 0 || l.Base() != x.First || l.Wants() != x.First || l.Early() != 0 || len(l.Tick()) != 0 {
			t.Errorf("%v: %v, %d, %d, %d, %d", x, l.Ends(), l.Left(), l.Base(), l.Wants(), l.Early())
		}
	}
	if New(api.Ends{}) != nil {
		t.Errorf("no ends may be")
	}
	node := []int{0, -1, api.MaxNode + 1, math.MaxInt, math.MinInt}
	count := []int{0, -1, api.MaxCount + 1, math.MaxInt, math.MinInt}
	for _, c := range []struct {
		do func(*api.Ends, int)
		l  []int
	}{
		{func(x *api.Ends, n int) { x.Me = n }, append(node, 2)},
		{func(x *api.Ends, n int) { x.Peer = n }, append(node, 1)},
		{func(x *api.Ends, n int) { x.Life = n }, count},
		{func(x *api.Ends, n int) { x.PeerLife = n }, count},
		{func(x *api.Ends, n int) { x.First = n }, count},
	} {
		for _, n := range c.l {
			x := here(1)
			if c.do(&x, n); New(x) != nil {
				t.Errorf("%v may not be", x)
			}
		}
	}
	a, b := New(here(1)), New(here(1))
	a.Send("a")
	if a.Take(comes(2, 0, "b")); b.Left() != 0 || b.Early() != 0 {
		t.Errorf("two links are one")
	}
}

// Promise 13.1: texts go out as long as there is room on the way, and the others wait.
func TestSend(t *testing.T) {
	for _, first := range []int{1, 100, api.MaxCount - MaxQueue} {
		l, m := New(here(first)), plainOf(here(first))
		for i := range MaxQueue {
			out, e := sends(t, l, m, letter(i))
			if e != api.OK || l.Left() != i+1 || l.Base() != first {
				t.Fatalf("Send %d: %v", i, e)
			}
			if i < 8 && !slices.Equal(out, []api.Packet{goes(first+i, first-1, letter(i))}) || i >= 8 && len(out) != 0 {
				t.Fatalf("Send %d: %v", i, out)
			}
		}
	}
}

// Promise 13.1: which texts are too long, and that this changes nothing.
func TestSendLong(t *testing.T) {
	l, m := New(here(1)), plainOf(here(1))
	full := strings.Repeat("\xff", api.MaxPayload)
	for _, s := range []string{full + "x", full + full, strings.Repeat("x", 1<<20)} {
		if out, e := sends(t, l, m, s); e != api.ErrArg || len(out) != 0 || l.Left() != 0 {
			t.Errorf("%d bytes: %v", len(s), e)
		}
	}
	for i, s := range []string{full, "", full[1:]} {
		out, e := sends(t, l, m, s)
		if e != api.OK || len(out) != 1 || out[0] != goes(1+i, 0, s) || !wire.CheckPacket(out[0]) {
			t.Errorf("%d bytes: %v", len(s), e)
		}
	}
}

// Promise 13.1: a full queue, and that there is room again behind an acknowledgement.
func TestSendFull(t *testing.T) {
	l, m := filled(t, 1, MaxQueue)
	for range 2 {
		if out, e := sends(t, l, m, "x"); e != api.ErrFull || len(out) != 0 || l.Left() != MaxQueue {
			t.Errorf("Send: %v, %v", out, e)
		}
	}
	if _, e := sends(t, l, m, strings.Repeat("x", api.MaxPayload+1)); e != api.ErrArg {
		t.Errorf("ErrArg comes ahead: %v", e)
	}
	takes(t, l, m, comes(0, 2, ""))
	for i, want := range []api.Errno{api.OK, api.OK, api.ErrFull} {
		if out, e := sends(t, l, m, "y"); e != want || len(out) != 0 {
			t.Errorf("Send %d behind that: %v, %v", i, out, e)
		}
	}
}

// Promise 13.1: the numbers end.
func TestSendMuch(t *testing.T) {
	for _, count := range []int{0, 1, 2, 7, 8, 9, 20, MaxQueue} {
		l, m := filled(t, api.MaxCount-count, count)
		if out, e := sends(t, l, m, "x"); e != api.ErrMuch || len(out) != 0 || l.Left() != count {
			t.Errorf("%d: Send: %v, %v", count, out, e)
		}
		if _, e := sends(t, l, m, strings.Repeat("x", api.MaxPayload+1)); e != api.ErrArg {
			t.Errorf("%d: ErrArg comes ahead: %v", count, e)
		}
		for base := l.Base(); l.Left() > 0; base++ {
			takes(t, l, m, comes(0, base, ""))
		}
		if _, e := sends(t, l, m, "x"); e != api.ErrMuch || l.Base() != api.MaxCount {
			t.Errorf("%d: Send behind all: %v, base %d", count, e, l.Base())
		}
	}
}

// Promise 13.2: which acknowledgements count, and what goes out behind them.
func TestAck(t *testing.T) {
	for _, first := range []int{1, 2, 50, api.MaxCount - 20} {
		for count := range 13 {
			most := min(count, 8)
			for ack := max(0, first-3); ack <= min(first+count+3, api.MaxCount); ack++ {
				l, m := filled(t, first, count)
				texts, out, e := takes(t, l, m, comes(0, ack, ""))
				gone := ack - first + 1
				if gone < 0 || gone > most {
					gone = 0
				}
				if e != api.OK || len(texts) != 0 || l.Left() != count-gone || l.Base() != first+gone || l.Wants() != first {
					t.Fatalf("%d from %d on, Ack %d: %v, %v, %d left, base %d", count, first, ack, texts, e, l.Left(), l.Base())
				}
				if len(out) != min(count-most, gone) || len(l.Tick()) != min(count-gone, 8) {
					t.Fatalf("%d from %d on, Ack %d: %v", count, first, ack, out)
				}
				for i, p := range out {
					if p != goes(first+8+i, first-1, letter(8+i)) {
						t.Fatalf("%d from %d on, Ack %d: %v", count, first, ack, out)
					}
				}
			}
		}
	}
	l, m := filled(t, 1, 20)
	for _, ack := range []int{0, 9, 20, api.MaxCount} {
		if takes(t, l, m, comes(0, ack, "")); l.Left() != 20 {
			t.Errorf("Ack %d: %d left", ack, l.Left())
		}
	}
	for i, ack := range []int{3, 3, 1, 0, 2, 4, 12, 13, 20} {
		takes(t, l, m, comes(0, ack, ""))
		if want := []int{17, 17, 17, 17, 17, 16, 8, 7, 0}[i]; l.Left() != want {
			t.Errorf("Ack %d: %d left, not %d", ack, l.Left(), want)
		}
	}
}

// Promise 13.2: how far ahead a text may come, and that what came behind it is acknowledged alone.
func TestNear(t *testing.T) {
	for _, first := range []int{1, 3, 30, api.MaxCount - 40} {
		for seq := max(1, first-10); seq <= first+20; seq++ {
			l, m := New(here(first)), plainOf(here(first))
			texts, out, e := takes(t, l, m, comes(seq, 0, "x"))
			early, ack := 0, first-1
			if seq > first && seq <= first+7 {
				early = 1
			}
			if seq == first {
				ack = first
			}
			if e != api.OK || (len(texts) == 1) != (seq == first) || l.Early() != early || l.Wants() != ack+1 {
				t.Fatalf("%d, first %d: %q, %v, %d early", seq, first, texts, e, l.Early())
			}
			if !slices.Equal(out, []api.Packet{goes(0, ack, "")}) {
				t.Fatalf("%d, first %d: %v", seq, first, out)
			}
		}
	}
}

// Promise 13.2: in whatever order texts come, and how often, they are handed on in theirs.
func TestOrder(t *testing.T) {
	const count = 6
	var try func(ahead []int)
	try = func(ahead []int) {
		for i := range count {
			if !slices.Contains(ahead, i) {
				try(append(slices.Clone(ahead), i))
			}
		}
		if len(ahead) < count {
			return
		}
		l, m, all := New(here(1)), plainOf(here(1)), ""
		for _, i := range ahead {
			for again := range 2 {
				texts, _, _ := takes(t, l, m, comes(1+i, 0, letter(i)))
				if all += strings.Join(texts, ""); again == 1 && len(texts) != 0 {
					t.Fatalf("%v: %q once more", ahead, texts)
				}
			}
		}
		if all != "abcdef" || l.Early() != 0 || l.Wants() != 7 {
			t.Fatalf("%v: %q", ahead, all)
		}
	}
	try(nil)
}

// Promises 13.2, 13.3: the window is filled from its end on; and what came first stays, whatever comes by its number.
func TestEarly(t *testing.T) {
	l, m := New(here(1)), plainOf(here(1))
	for i := 8; i >= 2; i-- {
		for _, text := range []string{letter(i), "other", ""} {
			texts, out, _ := takes(t, l, m, comes(i, 0, text))
			if len(texts) != 0 || l.Early() != 9-i || !slices.Equal(out, []api.Packet{goes(0, 0, "")}) {
				t.Fatalf("%d: %q, %v, %d early", i, texts, out, l.Early())
			}
		}
	}
	texts, out, _ := takes(t, l, m, comes(1, 0, "b"))
	if strings.Join(texts, "") != "bcdefghi" || !slices.Equal(out, []api.Packet{goes(0, 8, "")}) || l.Wants() != 9 || l.Early() != 0 {
		t.Errorf("all: %q, %v", texts, out)
	}
	// A text without bytes is one, too.
	if texts, _, _ := takes(t, l, m, comes(10, 0, "")); len(texts) != 0 || l.Early() != 1 {
		t.Errorf("early without bytes: %q", texts)
	}
	if texts, _, _ := takes(t, l, m, comes(9, 0, "")); !slices.Equal(texts, []string{"", ""}) {
		t.Errorf("two without bytes: %q", texts)
	}
}

// Promise 13.2: one packet acknowledges and brings; what goes out behind it says what came, and no other one does.
func TestBoth(t *testing.T) {
	l, m := filled(t, 1, 10)
	texts, out, e := takes(t, l, m, comes(1, 1, "x"))
	if e != api.OK || !slices.Equal(texts, []string{"x"}) || !slices.Equal(out, []api.Packet{goes(9, 1, "i")}) {
		t.Errorf("Take: %q, %v, %v", texts, out, e)
	}
	// A packet that came already acknowledges, too.
	texts, out, _ = takes(t, l, m, comes(1, 3, "x"))
	if len(texts) != 0 || !slices.Equal(out, []api.Packet{goes(10, 1, "j")}) || l.Left() != 7 {
		t.Errorf("once more: %q, %v", texts, out)
	}
	if texts, out, _ = takes(t, l, m, comes(3, 4, "z")); len(texts) != 0 || !slices.Equal(out, []api.Packet{goes(0, 1, "")}) {
		t.Errorf("early, none goes out: %q, %v", texts, out)
	}
	if texts, out, _ = takes(t, l, m, comes(0, 10, "")); len(texts) != 0 || len(out) != 0 || l.Left() != 0 || l.Early() != 1 {
		t.Errorf("an acknowledgement of all: %q, %v", texts, out)
	}
	if out, _ = sends(t, l, m, "k"); !slices.Equal(out, []api.Packet{goes(11, 1, "k")}) {
		t.Errorf("Send behind that: %v", out)
	}
}

// Promises 13.2, 13.3: packets that may not be, of others, of other lives, change nothing.
func TestTakeErrors(t *testing.T) {
	l, m := filled(t, 5, 10)
	takes(t, l, m, comes(7, 5, "early"))
	good := comes(5, 6, "x")
	refused := func(p api.Packet, want api.Errno) {
		t.Helper()
		if texts, out, e := takes(t, l, m, p); e != want || texts != nil || out != nil {
			t.Errorf("Take(%v): %q, %v, %v, not %v", brief(p), texts, brief(out...), e, want)
		}
	}
	change := func(want api.Errno, do func(*api.Packet, int), l ...int) {
		t.Helper()
		for _, n := range l {
			p := good
			do(&p, n)
			refused(p, want)
		}
	}
	from, to := func(p *api.Packet, n int) { p.From = n }, func(p *api.Packet, n int) { p.To = n }
	life, mine := func(p *api.Packet, n int) { p.FromLife = n }, func(p *api.Packet, n int) { p.ToLife = n }
	refused(api.Packet{}, api.ErrArg)
	change(api.ErrArg, from, 0, -1, 1, 3, api.MaxNode, api.MaxNode+1, math.MinInt)
	change(api.ErrArg, to, 0, -1, 2, 3, api.MaxNode, api.MaxNode+1, math.MaxInt)
	change(api.ErrArg, life, 0, -3, api.MaxCount+1, math.MaxInt)
	change(api.ErrArg, mine, 0, -4, api.MaxCount+1, math.MinInt)
	change(api.ErrArg, func(p *api.Packet, n int) { p.Seq = n }, -1, 0, api.MaxCount+1, math.MinInt)
	change(api.ErrArg, func(p *api.Packet, n int) { p.Ack = n }, -1, api.MaxCount+1, math.MaxInt)
	change(api.ErrArg, func(p *api.Packet, n int) { p.Text = strings.Repeat("x", n) }, api.MaxPayload+1, 1<<20)
	change(api.ErrNone, life, 1, 2, 4, api.MaxCount)
	change(api.ErrNone, mine, 1, 3, 5, api.MaxCount)
	// ErrArg comes ahead; and what went out of this end does not come to it.
	change(api.ErrArg, func(p *api.Packet, n int) { p.From, p.FromLife = n, 9 }, 3, 0)
	change(api.ErrArg, func(p *api.Packet, n int) { p.ToLife, p.Ack = n, -1 }, 9)
	refused(goes(5, 5, "x"), api.ErrArg)
	swapped := good
	swapped.FromLife, swapped.ToLife = good.ToLife, good.FromLife
	refused(swapped, api.ErrNone)
	if texts, _, e := takes(t, l, m, good); e != api.OK || !slices.Equal(texts, []string{"x"}) || l.Left() != 8 {
		t.Errorf("the good one behind these: %q, %v", texts, e)
	}
}

// Promise 13.2: a number that is wanted is at most api.MaxCount, and that one is never handed on.
func TestLastNumber(t *testing.T) {
	for back := range 10 {
		first := api.MaxCount - back
		l, m, all := New(here(first)), plainOf(here(first)), 0
		for range 2 {
			for seq := api.MaxCount; seq > first-3; seq-- {
				texts, out, e := takes(t, l, m, comes(seq, 0, strconv.Itoa(seq)))
				all += len(texts)
				if e != api.OK || slices.Contains(texts, strconv.Itoa(api.MaxCount)) || len(out) != 1 || out[0].Ack > api.MaxCount-1 || !wire.CheckPacket(out[0]) {
					t.Fatalf("%d: %q, %v, %v", seq, texts, out, e)
				}
			}
		}
		if all != min(back, 16) || l.Wants() != first+all {
			t.Errorf("%d ahead of the last: %d, wants %d", back, all, l.Wants())
		}
	}
}

// Promise 13.2: a tick sends all that has gone out and is in the queue, with what is wanted by now; and changes nothing.
func TestTick(t *testing.T) {
	for count := range 12 {
		l, m := filled(t, 3, count)
		takes(t, l, m, comes(3, 0, "x"))
		for range 3 {
			out := l.Tick()
			if len(out) != min(count, 8) {
				t.Fatalf("%d: %v", count, out)
			}
			for i, p := range out {
				if p != goes(3+i, 3, letter(i)) {
					t.Fatalf("%d: %v", count, out)
				}
			}
			agrees(t, l, m)
		}
	}
}

// Promise 13.2: a nil link.
func TestNil(t *testing.T) {
	var l *Link
	for _, s := range []string{"", "a", strings.Repeat("x", api.MaxPayload+1)} {
		if out, e := l.Send(s); e != api.ErrArg || out != nil {
			t.Errorf("Send: %v, %v", out, e)
		}
	}
	for _, p := range []api.Packet{{}, comes(1, 0, "a")} {
		if texts, out, e := l.Take(p); e != api.ErrArg || texts != nil || out != nil {
			t.Errorf("Take: %q, %v, %v", texts, out, e)
		}
	}
	if l.Tick() != nil || l.Left() != 0 || l.Base() != 0 || l.Wants() != 0 || l.Early() != 0 || l.Ends() != (api.Ends{}) {
		t.Errorf("a nil link has something")
	}
}

// The chapter's example.
func TestExample(t *testing.T) {
	a, b := New(here(1)), New(there(1))
	out, e := a.Send("a")
	if e != api.OK || !slices.Equal(out, []api.Packet{goes(1, 0, "a")}) {
		t.Fatalf("Send: %v, %v", out, e)
	}
	texts, back, e := b.Take(out[0])
	if e != api.OK || !slices.Equal(texts, []string{"a"}) || !slices.Equal(back, []api.Packet{comes(0, 1, "")}) {
		t.Fatalf("Take: %q, %v, %v", texts, back, e)
	}
	if texts, out, e := a.Take(back[0]); e != api.OK || len(texts) != 0 || len(out) != 0 || a.Left() != 0 {
		t.Errorf("Take of that: %q, %v, %v", texts, out, e)
	}
}

// Rule R3: packets and texts that are handed out are new memory.
func TestShares(t *testing.T) {
	l, m := filled(t, 1, 10)
	takes(t, l, m, comes(2, 0, "y"))
	texts, out, _ := takes(t, l, m, comes(1, 2, "x"))
	tick := l.Tick()
	for i := range texts {
		texts[i] = "spoilt"
	}
	for _, row := range [][]api.Packet{out, tick} {
		for i := range row {
			row[i] = api.Packet{Text: "spoilt"}
		}
		_ = append(row[:1], api.Packet{Text: "spoilt"})
	}
	agrees(t, l, m)
	kept := l.Tick()
	same := slices.Clone(kept)
	takes(t, l, m, comes(0, 5, ""))
	if sends(t, l, m, "z"); !slices.Equal(kept, same) {
		t.Errorf("what was handed out is changed: %v", kept)
	}
}

// Promises 13.1, 13.2: whatever comes, a link answers as its words do.
func TestAnyPackets(t *testing.T) {
	r := rand.New(rand.NewSource(13))
	for round := range 150 {
		first := []int{1, 5, 1000, api.MaxCount - 100, api.MaxCount - 12, api.MaxCount - 1, api.MaxCount}[round%7]
		l, m := New(here(first)), plainOf(here(first))
		near := func(n int) int { return max(0, min(api.MaxCount, n-3+r.Intn(14))) }
		for step := range 300 {
			s := strconv.Itoa(step)
			if r.Intn(2) == 0 {
				sends(t, l, m, s)
				continue
			}
			p := comes(near(l.Wants()), near(l.Base()), s)
			switch r.Intn(12) {
			case 0, 1:
				p.Seq = 0
			case 2:
				p.Seq, p.Ack = 1+r.Intn(api.MaxCount), r.Intn(api.MaxCount)
			case 3:
				p.FromLife += r.Intn(3) - 1
			case 4:
				p.To += r.Intn(3) - 1
			}
			if p.Seq == 0 && r.Intn(8) != 0 {
				p.Text = ""
			}
			takes(t, l, m, p)
		}
	}
}

// way is two ends, and the packets between them, in which nothing is in order.
type way struct {
	ends [2]*Link
	sent [2][]string // by whom
	got  [2][]string // by whom
	l    []api.Packet
}

func (w *way) send(who int, s string) {
	if out, e := w.ends[who].Send(s); e == api.OK {
		w.sent[who] = append(w.sent[who], s)
		w.l = append(w.l, out...)
	}
}

// comes lets the packet at a place come to whom it is sent, and leaves it under way if it is doubled.
func (w *way) comes(t *testing.T, at int, doubled bool) {
	t.Helper()
	p := w.l[at]
	if !doubled {
		w.l = slices.Delete(w.l, at, at+1)
	}
	who := p.To - 1
	texts, out, e := w.ends[who].Take(p)
	if e != api.OK && e != api.ErrNone {
		t.Fatalf("Take(%v): %v", p, e)
	}
	w.got[who] = append(w.got[who], texts...)
	w.l = append(w.l, out...)
}

// holds tells what of promise 13.3 does not hold.
func (w *way) holds(t *testing.T) {
	t.Helper()
	for who, l := range w.ends {
		if sent, got := w.sent[who], w.got[1-who]; len(got) > len(sent) || !slices.Equal(got, sent[:len(got)]) {
			t.Fatalf("%d sent %q, and the other one was handed %q", who+1, sent, got)
		}
		if len(l.Tick()) > Window || l.Early() > Window || l.Left() > MaxQueue {
			t.Fatalf("%d: %d on their way, %d early, %d left", who+1, len(l.Tick()), l.Early(), l.Left())
		}
	}
}

// calm lets ticks go on, with nothing lost: how many rounds it took, until nothing is left.
func (w *way) calm(t *testing.T) (rounds int) {
	t.Helper()
	for ; rounds < 100 && (w.ends[0].Left() > 0 || w.ends[1].Left() > 0); rounds++ {
		for _, l := range w.ends {
			w.l = append(w.l, l.Tick()...)
		}
		for len(w.l) > 0 {
			w.comes(t, 0, false)
		}
	}
	return rounds
}

// Promise 13.3: what one end sent is handed on by the other one, in order, each once, whatever is lost, doubled and late.
func TestWhatFollows(t *testing.T) {
	r := rand.New(rand.NewSource(31))
	for round := range 200 {
		first := []int{1, 77, api.MaxCount - 150}[round%3]
		w := &way{ends: [2]*Link{New(here(first)), New(there(first))}}
		for step := range 600 {
			at := 0
			if len(w.l) > 0 && r.Intn(3) > 0 {
				at = r.Intn(len(w.l))
			}
			switch what := r.Intn(20); {
			case what < 7:
				w.send(r.Intn(2), strconv.Itoa(step))
			case what < 8:
				w.l = append(w.l, w.ends[r.Intn(2)].Tick()...)
			case len(w.l) == 0:
			case what < 10 || len(w.l) > 100:
				w.l = slices.Delete(w.l, at, at+1)
			case what < 11:
				// One of an earlier life comes, too.
				old := w.l[at]
				old.FromLife = 1
				w.l = append(w.l, old)
			default:
				w.comes(t, at, what < 13)
			}
			w.holds(t)
		}
		if rounds := w.calm(t); rounds == 100 {
			t.Fatalf("%d: it does not end", round)
		}
		w.holds(t)
		for who := range w.ends {
			if len(w.got[1-who]) != len(w.sent[who]) || w.ends[who].Early() != 0 {
				t.Fatalf("%d: %d texts of %d came", round, len(w.got[1-who]), len(w.sent[who]))
			}
		}
	}
}

// Promise 13.3: though all packets but those of ticks are lost, all comes there.
func TestTicksAlone(t *testing.T) {
	w := &way{ends: [2]*Link{New(here(1)), New(there(1))}}
	for i := range 3 * MaxQueue {
		w.send(i%2, strconv.Itoa(i))
		w.l = nil
	}
	if rounds := w.calm(t); rounds == 100 || len(w.got[0]) != MaxQueue || len(w.got[1]) != MaxQueue {
		t.Errorf("%d rounds: %d and %d texts", rounds, len(w.got[0]), len(w.got[1]))
	}
	w.holds(t)
}
