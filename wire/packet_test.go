package wire

import (
	"math"
	"math/rand"
	"strings"
	"testing"

	"caduceus/api"
)

// packets: packets that may be, by their bytes.
func packets() map[string]api.Packet {
	full := strings.Repeat("\xff", api.MaxPayload)
	return map[string]api.Packet{
		"\x01\x02\x01\x03\x05\x04\x02hi":                                         {From: 1, To: 2, FromLife: 1, ToLife: 3, Seq: 5, Ack: 4, Text: "hi"},
		"\x02\x01\x01\x01\x00\x00\x00":                                           {From: 2, To: 1, FromLife: 1, ToLife: 1},
		"\x02\x01\x01\x01\x01\x00\x00":                                           {From: 2, To: 1, FromLife: 1, ToLife: 1, Seq: 1},
		"\x02\x01\x01\x01\x00\x01\x00":                                           {From: 2, To: 1, FromLife: 1, ToLife: 1, Ack: 1},
		"\x0f\x0e" + mostCount + mostCount + mostCount + mostCount + "\x00":      {From: 15, To: 14, FromLife: api.MaxCount, ToLife: api.MaxCount, Seq: api.MaxCount, Ack: api.MaxCount},
		"\x01\x0f\x01\x01\x01\x00\x80\x00\x80\x00" + full:                        {From: 1, To: 15, FromLife: 1, ToLife: 1, Seq: 1, Text: full},
		"\x01\x0f\x41\x2c\x7f\xff\x40\x40\x3f\x40\x40" + strings.Repeat("a", 64): {From: 1, To: 15, FromLife: 300, ToLife: 16383, Seq: 64, Ack: 63, Text: strings.Repeat("a", 64)},
	}
}

// Promise 11.1: CheckPacket, PacketText and ReadPacket.
func TestPackets(t *testing.T) {
	for s, p := range packets() {
		if !CheckPacket(p) || PacketText(p) != s {
			t.Errorf("%v: %v, %x", p, CheckPacket(p), PacketText(p))
		}
		if got, e := ReadPacket(s); e != api.OK || got != p {
			t.Errorf("ReadPacket(%x): %v, %v", s, got, e)
		}
		for _, behind := range []string{"\x00", "a", s} {
			packetRefused(t, s+behind)
		}
		for i := 0; i < len(s); i += 1 + len(s)/100 {
			packetRefused(t, s[:i])
		}
	}
}

func packetRefused(t *testing.T, s string) {
	t.Helper()
	if p, e := ReadPacket(s); e != api.ErrForm || p != (api.Packet{}) {
		t.Errorf("ReadPacket(%x): %v, %v", s, p, e)
	}
}

// Promise 11.1: what packets may not be.
func TestWrongPackets(t *testing.T) {
	good := api.Packet{From: 1, To: 2, FromLife: 1, ToLife: 1, Seq: 1, Ack: 1, Text: "x"}
	wrong := []api.Packet{{}}
	change := func(do func(*api.Packet, int), l ...int) {
		for _, n := range l {
			p := good
			do(&p, n)
			wrong = append(wrong, p)
		}
	}
	change(func(p *api.Packet, n int) { p.From = n }, 0, -1, 2, api.MaxNode+1, math.MaxInt, math.MinInt)
	change(func(p *api.Packet, n int) { p.To = n }, 0, -1, 1, api.MaxNode+1, math.MaxInt, math.MinInt)
	change(func(p *api.Packet, n int) { p.FromLife = n }, 0, -1, api.MaxCount+1, math.MaxInt, math.MinInt)
	change(func(p *api.Packet, n int) { p.ToLife = n }, 0, -1, api.MaxCount+1, math.MaxInt, math.MinInt)
	change(func(p *api.Packet, n int) { p.Seq = n }, 0, -1, api.MaxCount+1, math.MaxInt, math.MinInt)
	change(func(p *api.Packet, n int) { p.Ack = n }, -1, api.MaxCount+1, math.MaxInt, math.MinInt)
	change(func(p *api.Packet, n int) { p.Text = strings.Repeat("x", n) }, api.MaxPayload+1, api.MaxText, api.MaxText+1)
	for _, p := range wrong {
		if CheckPacket(p) || PacketText(p) != "" {
			t.Errorf("%v may not be: %x", p, PacketText(p))
		}
		packetRefused(t, number(p.From, p.To, p.FromLife, p.ToLife, p.Seq, p.Ack)+text(p.Text))
	}
	if !CheckPacket(good) {
		t.Errorf("%v may be", good)
	}
}

// Promise 11.2: other ways to write a packet are refused.
func TestOtherPackets(t *testing.T) {
	for _, s := range []string{
		"", "\x01", "\x40\x01\x02\x01\x01\x01\x00\x00", "\x01\x02\x01\x01\x40\x01\x00\x00", "\x01\x02\x01\x01\x01\x00\x40\x01x",
		"\x01\x02\x01\x01\x01\x00\xff\xff\xff\xff\xff\xff\xff\xff", "\x01\x02\x01\x01\x00\x00\x01x",
	} {
		packetRefused(t, s)
	}
}

// Promise 11.2: what is written is read, in one way alone.
func TestPacketsFollow(t *testing.T) {
	r := rand.New(rand.NewSource(12))
	number := func() int { return r.Intn(1<<r.Intn(42)) - r.Intn(2)*r.Intn(2) }
	seen := map[string]api.Packet{}
	for range 5000 {
		p := api.Packet{From: r.Intn(17), To: r.Intn(17), FromLife: 1 + number(), ToLife: 1 + number(), Seq: number(), Ack: number(), Text: strings.Repeat("a", r.Intn(3))}
		s := PacketText(p)
		if CheckPacket(p) != (s != "") {
			t.Fatalf("%v: %v, %x", p, CheckPacket(p), s)
		}
		if s == "" {
			continue
		}
		if got, e := ReadPacket(s); e != api.OK || got != p {
			t.Fatalf("%v: %x, %v, %v", p, s, got, e)
		}
		if other, is := seen[s]; is && other != p {
			t.Fatalf("%v and %v are both %x", p, other, s)
		}
		seen[s] = p
		spoilt := []byte(s)
		spoilt[r.Intn(len(s))] ^= byte(1 << r.Intn(8))
		readsOrRefuses(t, string(spoilt))
	}
	if len(seen) < 500 {
		t.Errorf("%d packets alone may be", len(seen))
	}
}
