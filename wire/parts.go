package wire

import (
	"strings"

	"caduceus/api"
	"caduceus/event"
	"caduceus/filter"
	"caduceus/forest"
	"caduceus/name"
	"caduceus/quic"
	"caduceus/schema"
)

// The parts of messages, a bit each, in the order in which they are written.
const (
	partReq = 1 << iota
	partE
	partS
	partP
	partVer
	partOwn
	partT
	partF
	partX
	partEnd // the first bit behind them
)

// maxError is the greatest error that a message tells.
const maxError = 99

// partsOf are the parts that messages have, by their kinds.
var partsOf = [api.MsgReady + 1]int{
	api.MsgReg:    partReq | partS | partP | partOwn,
	api.MsgRegOK:  partReq | partE | partT,
	api.MsgAsk:    partReq | partS,
	api.MsgTell:   partReq | partE | partT,
	api.MsgStore:  partT,
	api.MsgStored: partReq | partS,
	api.MsgSubs:   partS | partVer | partF,
	api.MsgSubsOK: partS | partVer,
	api.MsgPub:    partS | partX,
	api.MsgDone:   partReq | partS,
	api.MsgGive:   partS | partX,
	api.MsgGot:    partReq | partS,
	api.MsgHave:   partT,
	api.MsgReady:  0,
}

func isKind(kind int) bool {
	return kind >= api.MsgReg && kind <= api.MsgReady
}

// counts tells whether a number may be a life, an epoch or a version.
func counts(n int) bool {
	return n >= 1 && n <= api.MaxCount
}

// has tells whether a message of a kind has a part: a type does not stand beside an error.
func has(m api.Msg, part int) bool {
	return partsOf[m.Kind]&part != 0 && (part != partT || m.E == api.OK)
}

// partsMayBe tells whether a message may be, but for how many bytes it has.
func partsMayBe(m api.Msg) bool {
	if !isKind(m.Kind) || !counts(m.Epoch) {
		return false
	}
	for part := partReq; part < partEnd; part <<= 1 {
		if has(m, part) && !mayBe(m, part) || !has(m, part) && !isZero(m, part) {
			return false
		}
	}
	return true
}

func mayBe(m api.Msg, part int) bool {
	switch part {
	case partReq:
		return forest.IsID(m.Req)
	case partE:
		return m.E >= api.OK && m.E <= maxError
	case partS:
		return isName(m.S)
	case partP:
		return m.P == "" || isName(m.P)
	case partVer:
		return counts(m.Ver)
	case partOwn:
		return schema.Check(m.Own)
	case partT:
		return typesMayBe(m)
	case partF:
		return len(m.F) <= api.MaxFilters && all(m.F, filter.Check)
	}
	return event.Check(m.X)
}

func isName(s string) bool {
	return name.Check(s) == api.OK
}

// typesMayBe tells whether a message's types may be: one alone, but of MsgHave.
func typesMayBe(m api.Msg) bool {
	few := len(m.T) == 1 || m.Kind == api.MsgHave && len(m.T) <= api.MaxHave
	return few && all(m.T, forest.Check)
}

func all[T any](l []T, is func(T) bool) bool {
	for _, x := range l {
		if !is(x) {
			return false
		}
	}
	return true
}

func isZero(m api.Msg, part int) bool {
	switch part {
	case partReq:
		return m.Req == api.ID{}
	case partE:
		return m.E == api.OK
	case partS:
		return m.S == ""
	case partP:
		return m.P == ""
	case partVer:
		return m.Ver == 0
	case partOwn:
		return len(m.Own) == 0
	case partT:
		return len(m.T) == 0
	case partF:
		return len(m.F) == 0
	}
	return event.Same(m.X, api.Event{})
}

// write is the bytes of a message whose parts may be.
func write(m api.Msg) string {
	var out strings.Builder
	out.WriteString(quic.Num(m.Kind) + quic.Num(m.Epoch))
	for part := partReq; part < partEnd; part <<= 1 {
		if has(m, part) {
			out.WriteString(writePart(m, part))
		}
	}
	return out.String()
}

func writePart(m api.Msg, part int) string {
	switch part {
	case partReq:
		return quic.Num(m.Req.Node) + quic.Num(m.Req.Life) + quic.Num(m.Req.Seq)
	case partE:
		return quic.Num(int(m.E))
	case partS:
		return writeText(m.S)
	case partP:
		return writeText(m.P)
	case partVer:
		return quic.Num(m.Ver)
	case partOwn:
		return schema.Text(m.Own)
	case partT:
		return writeMany(m.T, forest.Text)
	case partF:
		return writeMany(m.F, filter.Text)
	}
	return event.Text(m.X)
}

func writeText(s string) string {
	out, _ := quic.Put([]api.Item{{Kind: api.ItemText, S: s}})
	return out
}

func writeMany[T any](l []T, write func(T) string) string {
	var out strings.Builder
	out.WriteString(quic.Num(len(l)))
	for _, x := range l {
		out.WriteString(write(x))
	}
	return out.String()
}

// read is the message at the front of bytes, which need not be one that may be.
func read(s string) (m api.Msg, e api.Errno) {
	head, s, e := quic.Take(s, []int{api.ItemNum, api.ItemNum})
	if e != api.OK {
		return m, e
	}
	m.Kind, m.Epoch = head[0].N, head[1].N
	if !isKind(m.Kind) {
		return m, api.ErrForm
	}
	for part := partReq; part < partEnd; part <<= 1 {
		// What was read tells here, too: whether there are types hangs on the error ahead of them.
		if !has(m, part) {
			continue
		}
		if s, e = readPart(&m, part, s); e != api.OK {
			return m, e
		}
	}
	return m, api.OK
}

// readPart reads a part into a message: what stands behind it.
func readPart(m *api.Msg, part int, s string) (rest string, e api.Errno) {
	switch part {
	case partReq:
		m.Req, rest, e = readID(s)
	case partE:
		m.E, rest, e = readError(s)
	case partS:
		m.S, rest, e = readText(s)
	case partP:
		m.P, rest, e = readText(s)
	case partVer:
		m.Ver, rest, e = quic.Get(s)
	case partOwn:
		m.Own, rest, e = schema.Read(s)
	case partT:
		m.T, rest, e = readMany(s, api.MaxHave, forest.Read)
	case partF:
		m.F, rest, e = readMany(s, api.MaxFilters, filter.Read)
	case partX:
		m.X, rest, e = event.Read(s)
	}
	return rest, e
}

func readID(s string) (x api.ID, rest string, e api.Errno) {
	l, rest, e := quic.Take(s, []int{api.ItemNum, api.ItemNum, api.ItemNum})
	if e != api.OK {
		return x, "", e
	}
	return api.ID{Node: l[0].N, Life: l[1].N, Seq: l[2].N}, rest, api.OK
}

func readError(s string) (told api.Errno, rest string, e api.Errno) {
	n, rest, e := quic.Get(s)
	return api.Errno(n), rest, e
}

func readText(s string) (text, rest string, e api.Errno) {
	l, rest, e := quic.Take(s, []int{api.ItemText})
	if e != api.OK {
		return "", "", e
	}
	return l[0].S, rest, api.OK
}

// readMany is what a number tells the count of, at most that many, and what stands behind.
func readMany[T any](s string, most int, read func(string) (T, string, api.Errno)) (l []T, rest string, e api.Errno) {
	n, rest, e := quic.Get(s)
	if e == api.OK && n > most {
		e = api.ErrLong
	}
	for i := 0; e == api.OK && i < n; i++ {
		var x T
		x, rest, e = read(rest)
		l = append(l, x)
	}
	if e != api.OK {
		return nil, "", e
	}
	return l, rest, api.OK
}
