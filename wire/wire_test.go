package wire

import (
	"math"
	"math/rand"
	"slices"
	"strconv"
	"strings"
	"testing"

	"caduceus/api"
	"caduceus/event"
	"caduceus/filter"
	"caduceus/forest"
	"caduceus/quic"
	"caduceus/schema"
)

// The bytes of what messages carry, written by hand.
const (
	idBytes     = "\x02\x01\x07"
	typeBytes   = "\x04News\x00" + "\x01\x05title\x02\x01" + "\x01\x05title\x02\x01" + "\x01\x04News" + idBytes
	filterBytes = "\x01\x05title\x08\x01\x02\x01a"
	eventBytes  = idBytes + "\x04News\x01\x05title\x02\x02ab"
	mostCount   = "\xc0\x00\x00\xff\xff\xff\xff\xff"
)

var (
	id    = api.ID{Node: 2, Life: 1, Seq: 7}
	edge  = api.ID{Node: api.MaxNode, Life: api.MaxCount, Seq: api.MaxCount}
	title = []api.Field{{Name: "title", Kind: api.KindText, Must: true}}
	news  = api.Type{Name: "News", Own: title, All: title, Chain: []string{"News"}, By: id}
	asks  = []api.Pred{{Name: "title", Op: api.OpPre, L: []api.Value{{Kind: api.KindText, S: "a"}}}}
	seen  = api.Event{ID: id, Type: "News", Attrs: []api.Attr{{Name: "title", V: api.Value{Kind: api.KindText, S: "ab"}}}}
)

type written struct {
	bytes string
	m     api.Msg
}

// messages: messages that may be, of all kinds, and their bytes.
func messages() []written {
	return []written{
		{"\x01\x01" + idBytes + "\x01a\x04News\x01\x01b\x01\x00", api.Msg{Kind: api.MsgReg, Epoch: 1, Req: id, S: "a", P: "News", Own: []api.Field{{Name: "b", Kind: api.KindInt}}}},
		{"\x01\x01" + idBytes + "\x01a\x00\x00", api.Msg{Kind: api.MsgReg, Epoch: 1, Req: id, S: "a"}},
		{"\x02\x01" + idBytes + "\x05", api.Msg{Kind: api.MsgRegOK, Epoch: 1, Req: id, E: api.ErrThere}},
		{"\x02\x01\x0f" + mostCount + mostCount + "\x40\x63", api.Msg{Kind: api.MsgRegOK, Epoch: 1, Req: edge, E: 99}},
		{"\x02\x01" + idBytes + "\x00\x01" + typeBytes, api.Msg{Kind: api.MsgRegOK, Epoch: 1, Req: id, T: []api.Type{news}}},
		{"\x03\x02" + idBytes + "\x01a", api.Msg{Kind: api.MsgAsk, Epoch: 2, Req: id, S: "a"}},
		{"\x04\x02" + idBytes + "\x04", api.Msg{Kind: api.MsgTell, Epoch: 2, Req: id, E: api.ErrNone}},
		{"\x04\x02" + idBytes + "\x00\x01" + typeBytes, api.Msg{Kind: api.MsgTell, Epoch: 2, Req: id, T: []api.Type{news}}},
		{"\x05\x02\x01" + typeBytes, api.Msg{Kind: api.MsgStore, Epoch: 2, T: []api.Type{news}}},
		{"\x06\x02" + idBytes + "\x01a", api.Msg{Kind: api.MsgStored, Epoch: 2, Req: id, S: "a"}},
		{"\x07\x02\x04News\x41\x2c\x02" + filterBytes + "\x00", api.Msg{Kind: api.MsgSubs, Epoch: 2, S: "News", Ver: 300, F: [][]api.Pred{asks, nil}}},
		{"\x07\x02\x04News\x01\x00", api.Msg{Kind: api.MsgSubs, Epoch: 2, S: "News", Ver: 1}},
		{"\x08\x02\x01a\x41\x2c", api.Msg{Kind: api.MsgSubsOK, Epoch: 2, S: "a", Ver: 300}},
		{"\x08\x02\x01a" + mostCount, api.Msg{Kind: api.MsgSubsOK, Epoch: 2, S: "a", Ver: api.MaxCount}},
		{"\x09\x01\x01a" + eventBytes, api.Msg{Kind: api.MsgPub, Epoch: 1, S: "a", X: seen}},
		{"\x0a\x01" + idBytes + "\x04News", api.Msg{Kind: api.MsgDone, Epoch: 1, Req: id, S: "News"}},
		{"\x0b\x01\x01a" + eventBytes, api.Msg{Kind: api.MsgGive, Epoch: 1, S: "a", X: seen}},
		{"\x0c\x01\x02\x01\x07\x01a", api.Msg{Kind: api.MsgGot, Epoch: 1, Req: id, S: "a"}},
		{"\x0d\x01\x00", api.Msg{Kind: api.MsgHave, Epoch: 1}},
		{"\x0d\x01\x01" + typeBytes, api.Msg{Kind: api.MsgHave, Epoch: 1, T: []api.Type{news}}},
		{"\x0d\x01\x02" + typeBytes + typeBytes, api.Msg{Kind: api.MsgHave, Epoch: 1, T: []api.Type{news, news}}},
		{"\x0e\x03", api.Msg{Kind: api.MsgReady, Epoch: 3}},
		{"\x0e" + mostCount, api.Msg{Kind: api.MsgReady, Epoch: api.MaxCount}},
	}
}

// kindsOf: which kinds have a part, as the chapter lists them.
var kindsOf = map[string][]int{
	"Req": {api.MsgReg, api.MsgRegOK, api.MsgAsk, api.MsgTell, api.MsgStored, api.MsgDone, api.MsgGot},
	"S":   {api.MsgReg, api.MsgAsk, api.MsgStored, api.MsgSubs, api.MsgSubsOK, api.MsgPub, api.MsgDone, api.MsgGive, api.MsgGot},
	"P":   {api.MsgReg},
	"Own": {api.MsgReg},
	"E":   {api.MsgRegOK, api.MsgTell},
	"T":   {api.MsgRegOK, api.MsgTell, api.MsgStore, api.MsgHave},
	"Ver": {api.MsgSubs, api.MsgSubsOK},
	"F":   {api.MsgSubs},
	"X":   {api.MsgPub, api.MsgGive},
}

// fill: gives a message parts that may be in one that has them.
var fill = map[string][]func(*api.Msg){
	"Req": {func(m *api.Msg) { m.Req = id }, func(m *api.Msg) { m.Req = edge }},
	"S":   {func(m *api.Msg) { m.S = "Émile.x-1" }, func(m *api.Msg) { m.S = "a.b.c.d.e" }, func(m *api.Msg) { m.S = strings.Repeat("中", api.MaxName) }},
	"P":   {func(m *api.Msg) { m.P = "x" }},
	"Own": {func(m *api.Msg) { m.Own = title }, func(m *api.Msg) { m.Own = fields(api.MaxFields) }},
	"T":   {func(m *api.Msg) { m.E, m.T = 0, []api.Type{news} }},
	"Ver": {func(m *api.Msg) { m.Ver = 1 }, func(m *api.Msg) { m.Ver = api.MaxCount }},
	"F":   {func(m *api.Msg) { m.F = [][]api.Pred{nil} }, func(m *api.Msg) { m.F = make([][]api.Pred, api.MaxFilters) }, func(m *api.Msg) { m.F = [][]api.Pred{asks, asks} }},
	"X":   {func(m *api.Msg) { m.X = seen }, func(m *api.Msg) { m.X = api.Event{ID: edge, Type: "q"} }},
	"E":   {func(m *api.Msg) { m.E, m.T = 1, nil }, func(m *api.Msg) { m.E, m.T = 99, nil }},
}

// part: gives a message something of a part, however little; one that does not have the part may not be, then.
var part = map[string][]func(*api.Msg){
	"Req": {func(m *api.Msg) { m.Req.Node = 1 }, func(m *api.Msg) { m.Req.Life = 1 }, func(m *api.Msg) { m.Req.Seq = -1 }},
	"S":   {func(m *api.Msg) { m.S = "\x00" }},
	"P":   {func(m *api.Msg) { m.P = " " }},
	"Own": {func(m *api.Msg) { m.Own = make([]api.Field, 1) }},
	"T":   {func(m *api.Msg) { m.T = make([]api.Type, 1) }},
	"Ver": {func(m *api.Msg) { m.Ver = -1 }},
	"F":   {func(m *api.Msg) { m.F = make([][]api.Pred, 1) }},
	"X": {func(m *api.Msg) { m.X.ID.Node = 1 }, func(m *api.Msg) { m.X.ID.Life = 1 }, func(m *api.Msg) { m.X.ID.Seq = 1 },
		func(m *api.Msg) { m.X.Type = "a" }, func(m *api.Msg) { m.X.Attrs = make([]api.Attr, 1) }},
	"E": {func(m *api.Msg) { m.E = -1 }, func(m *api.Msg) { m.E = 1 }},
}

// spoil: gives a message that has a part one that may not be.
var spoil = map[string][]func(*api.Msg){
	"Req": {func(m *api.Msg) { m.Req = api.ID{} }, func(m *api.Msg) { m.Req.Node = api.MaxNode + 1 }, func(m *api.Msg) { m.Req.Life = 0 },
		func(m *api.Msg) { m.Req.Life = api.MaxCount + 1 }, func(m *api.Msg) { m.Req.Seq = 0 }, func(m *api.Msg) { m.Req.Seq = math.MaxInt }},
	"S": {func(m *api.Msg) { m.S = "" }, func(m *api.Msg) { m.S = "a b" }, func(m *api.Msg) { m.S = "\xff" }, func(m *api.Msg) { m.S = "a.b.c.d.e.f" },
		func(m *api.Msg) { m.S = strings.Repeat("a", api.MaxName+1) }},
	"P":   {func(m *api.Msg) { m.P = "a..b" }, func(m *api.Msg) { m.P = "1" }, func(m *api.Msg) { m.P = strings.Repeat("a", api.MaxName+1) }},
	"Own": {func(m *api.Msg) { m.Own = make([]api.Field, 1) }, func(m *api.Msg) { m.Own = fields(api.MaxFields + 1) }, func(m *api.Msg) { m.Own = slices.Concat(title, title) }},
	"T": {func(m *api.Msg) { m.E, m.T = 0, make([]api.Type, 1) }, func(m *api.Msg) { m.E, m.T = 1, []api.Type{news} },
		func(m *api.Msg) { m.E, m.T = 0, types(api.MaxHave+1) }, func(m *api.Msg) { m.E, m.T = 0, []api.Type{news, {}} }},
	"Ver": {func(m *api.Msg) { m.Ver = 0 }, func(m *api.Msg) { m.Ver = -1 }, func(m *api.Msg) { m.Ver = api.MaxCount + 1 }, func(m *api.Msg) { m.Ver = math.MinInt }},
	"F": {func(m *api.Msg) { m.F = make([][]api.Pred, api.MaxFilters+1) }, func(m *api.Msg) { m.F = [][]api.Pred{nil, make([]api.Pred, 1)} },
		func(m *api.Msg) { m.F = [][]api.Pred{{{Name: "Any", Op: api.OpHas}}} }},
	"X": {func(m *api.Msg) { m.X = api.Event{} }, func(m *api.Msg) { m.X.ID.Life = 0 }, func(m *api.Msg) { m.X.Type = "1" }, func(m *api.Msg) { m.X.Attrs = make([]api.Attr, 1) }},
	"E": {func(m *api.Msg) { m.E, m.T = -1, nil }, func(m *api.Msg) { m.E, m.T = 100, nil }, func(m *api.Msg) { m.E, m.T = math.MinInt, nil }, func(m *api.Msg) { m.E, m.T = 0, nil }},
}

// fields: that many, by names that rise.
func fields(count int) (l []api.Field) {
	for i := range count {
		l = append(l, api.Field{Name: "a" + strconv.Itoa(10+i), Kind: api.KindBool})
	}
	return l
}

// types: that many, all roots.
func types(count int) (l []api.Type) {
	for i := range count {
		t, _ := forest.Root("t"+strconv.Itoa(i), nil, id)
		l = append(l, t)
	}
	return l
}

func number(l ...int) (s string) {
	for _, n := range l {
		s += quic.Num(n)
	}
	return s
}

func text(s string) string {
	return quic.Num(len(s)) + s
}

func who(x api.ID) string {
	return number(x.Node, x.Life, x.Seq)
}

func list[T any](l []T, write func(T) string) string {
	s := number(len(l))
	for _, x := range l {
		s += write(x)
	}
	return s
}

// bytesOf writes a message kind by kind, as the chapter says, however many bytes it has.
func bytesOf(m api.Msg) string {
	s := number(m.Kind, m.Epoch)
	switch m.Kind {
	case api.MsgReg:
		return s + who(m.Req) + text(m.S) + text(m.P) + schema.Text(m.Own)
	case api.MsgRegOK, api.MsgTell:
		if m.E != api.OK {
			return s + who(m.Req) + number(int(m.E))
		}
		return s + who(m.Req) + number(0) + list(m.T, forest.Text)
	case api.MsgStore, api.MsgHave:
		return s + list(m.T, forest.Text)
	case api.MsgSubs:
		return s + text(m.S) + number(m.Ver) + list(m.F, filter.Text)
	case api.MsgSubsOK:
		return s + text(m.S) + number(m.Ver)
	case api.MsgPub, api.MsgGive:
		return s + text(m.S) + event.Text(m.X)
	case api.MsgAsk, api.MsgStored, api.MsgDone, api.MsgGot:
		return s + who(m.Req) + text(m.S)
	}
	return s
}

func isNothing(m api.Msg) bool {
	return Same(m, api.Msg{}) && m.Own == nil && m.T == nil && m.F == nil && m.X.Attrs == nil
}

// goesRound tells what is wrong with a message that may be.
func goesRound(t *testing.T, m api.Msg, want string) {
	t.Helper()
	if !Check(m) || Text(m) != want {
		t.Errorf("%v: %v, %x, not %x", m, Check(m), Text(m), want)
	}
	if got, e := Read(want); e != api.OK || !Same(got, m) {
		t.Errorf("Read(%x): %v, %v", want, got, e)
	}
}

// mayNotBe tells what is wrong with a message that may not be.
func mayNotBe(t *testing.T, m api.Msg) {
	t.Helper()
	if Check(m) || Text(m) != "" {
		t.Errorf("%v may not be: %x", m, Text(m))
	}
}

func refused(t *testing.T, s string) {
	t.Helper()
	if m, e := Read(s); e != api.ErrForm || !isNothing(m) {
		t.Errorf("Read(%x): %v, %v", s, m, e)
	}
}

// Promise 11.1: Check, Text and Read, by bytes written by hand.
func TestBytes(t *testing.T) {
	kinds := map[int]int{}
	for _, x := range messages() {
		kinds[x.m.Kind]++
		goesRound(t, x.m, x.bytes)
		if bytesOf(x.m) != x.bytes {
			t.Errorf("the tests write %v as %x", x.m, bytesOf(x.m))
		}
		// A nil list and an empty one are the same.
		m := x.m
		m.Own, m.T, m.F = append([]api.Field{}, m.Own...), append([]api.Type{}, m.T...), append([][]api.Pred{}, m.F...)
		m.X.Attrs = append([]api.Attr{}, m.X.Attrs...)
		goesRound(t, m, x.bytes)
	}
	if len(kinds) != api.MsgReady {
		t.Errorf("messages of %d kinds", len(kinds))
	}
}

// Promise 11.1: what a kind has, at the edges; what it has not; what may not be.
func TestParts(t *testing.T) {
	for _, x := range messages() {
		for name, kinds := range kindsOf {
			if !slices.Contains(kinds, x.m.Kind) {
				for _, do := range slices.Concat(fill[name], part[name]) {
					m := x.m
					do(&m)
					mayNotBe(t, m)
				}
				continue
			}
			for _, do := range fill[name] {
				m := x.m
				do(&m)
				goesRound(t, m, bytesOf(m))
			}
			for _, do := range spoil[name] {
				m := x.m
				do(&m)
				mayNotBe(t, m)
			}
		}
		for _, kind := range []int{0, -1, api.MsgReady + 1, math.MaxInt, math.MinInt} {
			m := x.m
			m.Kind = kind
			mayNotBe(t, m)
			mayNotBe(t, api.Msg{Kind: kind, Epoch: 1})
		}
		for _, epoch := range []int{0, -1, api.MaxCount + 1, math.MaxInt, math.MinInt} {
			m := x.m
			m.Epoch = epoch
			mayNotBe(t, m)
		}
	}
	mayNotBe(t, api.Msg{})
}

// Promise 11.1: a type stands beside no error, and is one alone; of MsgHave there are many.
func TestTypes(t *testing.T) {
	for count := range api.MaxHave + 3 {
		m := api.Msg{Kind: api.MsgHave, Epoch: 1, T: types(count)}
		if count <= api.MaxHave {
			goesRound(t, m, bytesOf(m))
		} else {
			mayNotBe(t, m)
			refused(t, bytesOf(m))
		}
		for _, m := range []api.Msg{{Kind: api.MsgStore, Epoch: 1, T: types(count)}, {Kind: api.MsgRegOK, Epoch: 1, Req: id, T: types(count)}, {Kind: api.MsgTell, Epoch: 1, Req: id, T: types(count)}} {
			if count == 1 {
				goesRound(t, m, bytesOf(m))
				m.E = 1
				mayNotBe(t, m)
				refused(t, bytesOf(m)+"\x01"+forest.Text(m.T[0]))
				continue
			}
			mayNotBe(t, m)
			refused(t, bytesOf(m))
		}
	}
	// Types of a message need be no forest.
	below, _ := forest.Below(news, "b", nil, id)
	for _, l := range [][]api.Type{{below}, {below, below}, {news, below, news}} {
		m := api.Msg{Kind: api.MsgHave, Epoch: 1, T: l}
		goesRound(t, m, bytesOf(m))
	}
}

// Promise 11.1: all errors that there may be.
func TestErrors(t *testing.T) {
	for _, kind := range []int{api.MsgRegOK, api.MsgTell} {
		for e := api.Errno(1); e < 200; e++ {
			m := api.Msg{Kind: kind, Epoch: 1, Req: id, E: e}
			if e <= 99 {
				goesRound(t, m, bytesOf(m))
			} else {
				mayNotBe(t, m)
				refused(t, bytesOf(m))
			}
		}
		refused(t, number(kind, 1)+idBytes+number(api.MaxNum))
		refused(t, number(kind, 1)+idBytes+number(0))
		refused(t, number(kind, 1)+idBytes+number(0, 0))
	}
}

// long: a message of little less than there may be, and that many bytes of a text.
func long(more int) api.Msg {
	unlike := func(size int) api.Pred {
		return api.Pred{Name: "a", Op: api.OpNe, L: []api.Value{{Kind: api.KindText, S: strings.Repeat("x", size)}}}
	}
	m := api.Msg{Kind: api.MsgSubs, Epoch: 1, S: "a", Ver: 1, F: make([][]api.Pred, 14)}
	for i := range m.F {
		for range 11 {
			m.F[i] = append(m.F[i], unlike(api.MaxValue))
		}
	}
	for i := range 4 {
		m.F[i] = append(m.F[i], unlike(api.MaxValue))
	}
	m.F[4] = append(m.F[4], unlike(more))
	return m
}

// Promise 11.1: a message has at most api.MaxPayload bytes.
func TestPayload(t *testing.T) {
	sizes := map[int]int{}
	for more := range api.MaxValue + 1 {
		m := long(more)
		s := bytesOf(m)
		sizes[len(s)]++
		if len(s) <= api.MaxPayload {
			goesRound(t, m, s)
		} else {
			mayNotBe(t, m)
			refused(t, s)
		}
	}
	if sizes[api.MaxPayload] == 0 || sizes[api.MaxPayload+1] == 0 {
		t.Errorf("no message at the edge: %v", sizes)
	}
	var own []api.Field
	for i := range api.MaxFields {
		own = append(own, api.Field{Name: strings.Repeat("中", api.MaxName-2) + strconv.Itoa(10+i), Kind: api.KindBytes})
	}
	wide, e := forest.Root("wide", own, id)
	far := api.Msg{Kind: api.MsgHave, Epoch: 1, T: slices.Repeat([]api.Type{wide}, api.MaxHave)}
	if s := bytesOf(far); e != api.OK || len(s) <= 2*api.MaxPayload {
		t.Errorf("%d bytes, %v", len(s), e)
	}
	mayNotBe(t, far)
	refused(t, bytesOf(far))
}

// Promises 11.1, 11.2: bytes that are cut off, or have something behind, are none.
func TestCutOff(t *testing.T) {
	for _, x := range messages() {
		for i := range x.bytes {
			refused(t, x.bytes[:i])
		}
		for _, s := range []string{"\x00", "\x01", "a", "\xff", x.bytes} {
			refused(t, x.bytes+s)
		}
	}
}

// Promise 11.2: other ways to write a message are refused.
func TestOtherWays(t *testing.T) {
	for _, s := range []string{
		"", "\x00", "\x0e", "\x0e\x00", "\x0f\x01", "\x00\x01", "\x3f\x01",
		"\x40\x0e\x03", "\x0e\x40\x03", "\x0e\x80\x00\x00\x03", "\x0e\xc0\x00\x00\x00\x00\x00\x00\x03",
		"\x0e\xc0\x00\x01\x00\x00\x00\x00\x00",                 // an epoch that is too great
		"\xff\xff\xff\xff\xff\xff\xff\xff\x01",                 // a kind far beyond
		"\x0c\x01\x00\x01\x07\x01a",                            // no node
		"\x0c\x01\x10\x01\x07\x01a",                            // a node that is too great
		"\x0c\x01\x02\x01\x07\x00",                             // no name
		"\x0c\x01\x02\x01\x07\x011",                            // what is no name
		"\x0c\x01\x02\x01\x07\xc0\x00\x00\x00\xff\xff\xff\xff", // a text far too long
		"\x08\x02\x01a\x00",                                    // no version
		"\x08\x02\x01a\xc0\x00\x01\x00\x00\x00\x00\x00",        // a version that is too great
		"\x07\x02\x01a\x01\xff\xff\xff\xff\xff\xff\xff\xff",    // far too many filters
		"\x07\x02\x01a\x01\x15" + strings.Repeat("\x00", 21),   // one filter too many
		"\x07\x02\x01a\x01\x01\x01\x02in\x01\x00",              // a filter that can't be asked
		"\x0d\x01\xff\xff\xff\xff\xff\xff\xff\xff",             // far too many types
		"\x0d\x01\x29" + strings.Repeat(typeBytes, 41),         // one type too many
		"\x05\x01\x00", "\x05\x01\x02" + typeBytes + typeBytes, // none, and two where there is one
		"\x09\x01\x01a" + "\x00\x01\x07\x04News\x00",        // an event that may not be
		"\x01\x01" + idBytes + "\x01a\x01 \x00",             // a parent that is no name
		"\x01\x01" + idBytes + "\x01a\x00\x01\x01b\x09\x00", // a field that may not be
	} {
		refused(t, s)
	}
	refused(t, strings.Repeat("\x0e\x01", api.MaxPayload))
}

// Promise 11.1: Same.
func TestSame(t *testing.T) {
	full := func() api.Msg {
		return api.Msg{Kind: 1, Epoch: 2, Req: api.ID{Node: 1, Life: 2, Seq: 3}, E: 4, S: "s", P: "p", Ver: 5, Own: slices.Clone(title), T: []api.Type{{Name: "t", Own: slices.Clone(title), Chain: []string{"t"}}},
			F: [][]api.Pred{{{Name: "f", Op: 2, L: []api.Value{{Kind: 1, N: 3}}}}}, X: api.Event{ID: id, Type: "x", Attrs: []api.Attr{{Name: "a", V: api.Value{Kind: 1, N: 6}}}}}
	}
	if !Same(full(), full()) || !Same(api.Msg{}, api.Msg{Own: []api.Field{}, T: []api.Type{}, F: [][]api.Pred{}, X: api.Event{Attrs: []api.Attr{}}}) {
		t.Errorf("messages that are the same are not")
	}
	if !Same(api.Msg{F: [][]api.Pred{nil}, T: []api.Type{{}}}, api.Msg{F: [][]api.Pred{{}}, T: []api.Type{{Own: []api.Field{}, All: []api.Field{}, Chain: []string{}}}}) {
		t.Errorf("a nil list and an empty one are the same")
	}
	for i, do := range []func(*api.Msg){
		func(m *api.Msg) { m.Kind++ }, func(m *api.Msg) { m.Epoch++ }, func(m *api.Msg) { m.Req.Node++ }, func(m *api.Msg) { m.Req.Life++ }, func(m *api.Msg) { m.Req.Seq++ },
		func(m *api.Msg) { m.E++ }, func(m *api.Msg) { m.S = "S" }, func(m *api.Msg) { m.P = "P" }, func(m *api.Msg) { m.Ver++ }, func(m *api.Msg) { m.Own[0].Must = false },
		func(m *api.Msg) { m.Own = nil }, func(m *api.Msg) { m.Own[0].Name = "Title" }, func(m *api.Msg) { m.T = nil }, func(m *api.Msg) { m.T[0].Name = "T" }, func(m *api.Msg) { m.T[0].By.Seq++ },
		func(m *api.Msg) { m.T[0].Own[0].Kind++ }, func(m *api.Msg) { m.T[0].Chain[0] = "T" }, func(m *api.Msg) { m.T = append(m.T, m.T[0]) }, func(m *api.Msg) { m.F = nil }, func(m *api.Msg) { m.F[0] = nil },
		func(m *api.Msg) { m.F[0][0].Op++ }, func(m *api.Msg) { m.F[0][0].L[0].N++ }, func(m *api.Msg) { m.F = append(m.F, nil) }, func(m *api.Msg) { m.X.ID.Seq++ }, func(m *api.Msg) { m.X.Type = "X" },
		func(m *api.Msg) { m.X.Attrs = nil }, func(m *api.Msg) { m.X.Attrs[0].V.N++ }, func(m *api.Msg) { m.X.Attrs[0].Name = "A" },
	} {
		m := full()
		if do(&m); Same(m, full()) || Same(full(), m) || !Same(m, m) {
			t.Errorf("change %d is not seen", i)
		}
	}
}

// Rule R3: what is read is new memory, time and again.
func TestReadShares(t *testing.T) {
	for _, x := range messages() {
		m, _ := Read(x.bytes)
		for i := range m.Own {
			m.Own[i] = api.Field{}
		}
		for i := range m.T {
			m.T[i].Own[0], m.T[i].Chain[0] = api.Field{}, ""
			if m.T[i].All[0] != title[0] {
				t.Errorf("lists of one answer share memory")
			}
			m.T[i].All[0] = api.Field{}
		}
		for _, f := range m.F {
			for i := range f {
				f[i].L[0] = api.Value{}
			}
		}
		for i := range m.X.Attrs {
			m.X.Attrs[i] = api.Attr{}
		}
		goesRound(t, x.m, x.bytes)
	}
}

// some: a message that chance makes; often one that may be.
func some(r *rand.Rand) api.Msg {
	m := api.Msg{Kind: 1 + r.Intn(api.MsgReady), Epoch: 1 + r.Intn(1000)}
	for name, kinds := range kindsOf {
		if slices.Contains(kinds, m.Kind) && name != "E" && name != "T" {
			fill[name][r.Intn(len(fill[name]))](&m)
		}
	}
	if slices.Contains(kindsOf["E"], m.Kind) {
		m.E = api.Errno(r.Intn(2) * r.Intn(110))
	}
	switch {
	case m.Kind == api.MsgHave:
		m.T = types(r.Intn(5))
	case m.E == 0 && slices.Contains(kindsOf["T"], m.Kind):
		m.T = types(1)
	}
	if r.Intn(10) == 0 {
		m.Ver = r.Intn(3)
	}
	return m
}

// Promise 11.2: what is written is read, in one way alone.
func TestWhatFollows(t *testing.T) {
	r := rand.New(rand.NewSource(11))
	last := some(r)
	for range 3000 {
		m := some(r)
		s := Text(m)
		if Check(m) != (s != "") || Check(m) && s != bytesOf(m) {
			t.Fatalf("%v: %v, %x", m, Check(m), s)
		}
		if got, e := Read(s); Check(m) && (e != api.OK || !Same(got, m)) || !Check(m) && e != api.ErrForm {
			t.Fatalf("%v: %x, %v, %v", m, s, got, e)
		}
		if Check(m) && Check(last) && Same(m, last) != (s == Text(last)) {
			t.Fatalf("one way alone: %v, %v", m, last)
		}
		last = m
		if s == "" {
			continue
		}
		spoilt := []byte(s)
		spoilt[r.Intn(len(s))] ^= byte(1 << r.Intn(8))
		readsOrRefuses(t, string(spoilt))
		at := r.Intn(len(s))
		readsOrRefuses(t, s[:at]+s[at+1:])
		readsOrRefuses(t, s[:at]+string(rune(r.Intn(128)))+s[at:])
	}
}

func readsOrRefuses(t *testing.T, s string) {
	t.Helper()
	if m, e := Read(s); e == api.OK && (Text(m) != s || !Check(m)) || e != api.OK && (e != api.ErrForm || !isNothing(m)) {
		t.Errorf("Read(%x): %v, %v", s, m, e)
	}
	if p, e := ReadPacket(s); e == api.OK && (PacketText(p) != s || !CheckPacket(p)) || e != api.OK && (e != api.ErrForm || p != api.Packet{}) {
		t.Errorf("ReadPacket(%x): %v, %v", s, p, e)
	}
}

// Rule R1, and promise 11.2: any bytes are answered, and what is read is written so.
func FuzzRead(f *testing.F) {
	for _, x := range messages() {
		f.Add(x.bytes)
	}
	for s := range packets() {
		f.Add(s)
	}
	f.Fuzz(readsOrRefuses)
}
