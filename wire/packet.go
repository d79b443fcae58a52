package wire

import (
	"caduceus/api"
	"caduceus/quic"
)

func isNode(n int) bool {
	return n >= 1 && n <= api.MaxNode
}

// isSeq tells whether a number may be that of a packet, or tell that there is none.
func isSeq(n int) bool {
	return n >= 0 && n <= api.MaxCount
}

// CheckPacket tells whether a packet may be.
func CheckPacket(p api.Packet) bool {
	return isNode(p.From) && isNode(p.To) && p.From != p.To &&
		counts(p.FromLife) && counts(p.ToLife) && isSeq(p.Seq) && isSeq(p.Ack) &&
		len(p.Text) <= api.MaxPayload && (p.Text == "" || p.Seq != 0)
}

// PacketText is a packet's bytes; none, if it may not be.
func PacketText(p api.Packet) string {
	if !CheckPacket(p) {
		return ""
	}
	s, _ := quic.Put([]api.Item{
		{Kind: api.ItemNum, N: p.From},
		{Kind: api.ItemNum, N: p.To},
		{Kind: api.ItemNum, N: p.FromLife},
		{Kind: api.ItemNum, N: p.ToLife},
		{Kind: api.ItemNum, N: p.Seq},
		{Kind: api.ItemNum, N: p.Ack},
		{Kind: api.ItemText, S: p.Text},
	})
	return s
}

// ReadPacket is the packet of bytes.
func ReadPacket(s string) (api.Packet, api.Errno) {
	l, e := quic.Row(s, []int{api.ItemNum, api.ItemNum, api.ItemNum, api.ItemNum, api.ItemNum, api.ItemNum, api.ItemText})
	if e != api.OK {
		return api.Packet{}, api.ErrForm
	}
	p := api.Packet{From: l[0].N, To: l[1].N, FromLife: l[2].N, ToLife: l[3].N, Seq: l[4].N, Ack: l[5].N, Text: l[6].S}
	if !CheckPacket(p) {
		return api.Packet{}, api.ErrForm
	}
	return p, api.OK
}
