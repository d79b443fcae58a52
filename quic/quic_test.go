package quic

import (
	"math"
	"math/rand"
	"slices"
	"strings"
	"testing"

	"caduceus/api"
)

// numbers: each edge of the forms, and what stands beside it.
var numbers = map[int]string{
	0:                  "\x00",
	37:                 "\x25",
	63:                 "\x3f",
	64:                 "\x40\x40",
	15293:              "\x7b\xbd",
	1<<14 - 1:          "\x7f\xff",
	1 << 14:            "\x80\x00\x40\x00",
	494878333:          "\x9d\x7f\x3e\x7d",
	1<<30 - 1:          "\xbf\xff\xff\xff",
	1 << 30:            "\xc0\x00\x00\x00\x40\x00\x00\x00",
	151288809941952652: "\xc2\x19\x7c\x5e\xff\x14\xe8\x8c",
	api.MaxNum:         "\xff\xff\xff\xff\xff\xff\xff\xff",
}

// Promise 1.1: Num, Size.
func TestNumAndSize(t *testing.T) {
	for n, want := range numbers {
		if got := Num(n); got != want {
			t.Errorf("Num(%d): %x, not %x", n, got, want)
		}
		if got := Size(n); got != len(want) {
			t.Errorf("Size(%d): %d, not %d", n, got, len(want))
		}
	}
	for _, n := range []int{-1, -64, math.MinInt, api.MaxNum + 1, math.MaxInt} {
		if got := Num(n); got != "" {
			t.Errorf("Num(%d): %x of no number", n, got)
		}
		if got := Size(n); got != 0 {
			t.Errorf("Size(%d): %d of no number", n, got)
		}
	}
}

// Promise 1.1: Whole.
func TestWhole(t *testing.T) {
	for z, want := range map[int]string{
		0:                 "\x00",
		-1:                "\x01",
		1:                 "\x02",
		31:                "\x3e",
		-32:               "\x3f",
		32:                "\x40\x40",
		-33:               "\x40\x41",
		api.MaxWhole:      "\xff\xff\xff\xff\xff\xff\xff\xfe",
		-api.MaxWhole - 1: "\xff\xff\xff\xff\xff\xff\xff\xff",
		api.MaxWhole + 1:  "",
		-api.MaxWhole - 2: "",
		math.MaxInt:       "",
		math.MinInt:       "",
		math.MinInt / 2:   "",
	} {
		if got := Whole(z); got != want {
			t.Errorf("Whole(%d): %x, not %x", z, got, want)
		}
	}
}

// Promise 1.1: Get.
func TestGet(t *testing.T) {
	for want, s := range numbers {
		for _, behind := range []string{"", "z", "\x00\xff"} {
			n, rest, e := Get(s + behind)
			if n != want || rest != behind || e != api.OK {
				t.Errorf("Get(%x): %d, %x, %v", s+behind, n, rest, e)
			}
		}
		for i := range s {
			if n, rest, e := Get(s[:i]); n != 0 || rest != "" || e != api.ErrShort {
				t.Errorf("Get(%x): %d, %x, %v of bytes that end", s[:i], n, rest, e)
			}
		}
	}
	for s, want := range map[string]api.Errno{
		"":                                     api.ErrShort,
		"\x40":                                 api.ErrShort, // too long a form, but the bytes end first
		"\x80\x00\x00":                         api.ErrShort,
		"\xc0\x00\x00\x00\x00\x00":             api.ErrShort,
		"\x40\x25":                             api.ErrForm,
		"\x40\x3f":                             api.ErrForm,
		"\x40\x3fz":                            api.ErrForm,
		"\x80\x00\x3f\xff":                     api.ErrForm,
		"\x80\x00\x00\x00":                     api.ErrForm,
		"\xc0\x00\x00\x00\x3f\xff\xff\xff":     api.ErrForm,
		"\xc0\x00\x00\x00\x00\x00\x00\x00more": api.ErrForm,
	} {
		if n, rest, e := Get(s); n != 0 || rest != "" || e != want {
			t.Errorf("Get(%x): %d, %x, %v, not %v", s, n, rest, e, want)
		}
	}
}

// Promise 1.2: Put.
func TestPut(t *testing.T) {
	long := strings.Repeat("x", api.MaxText)
	for _, c := range []struct {
		l    []api.Item
		want string
	}{
		{nil, ""},
		{[]api.Item{}, ""},
		{[]api.Item{{Kind: api.ItemNum, N: 300}, {Kind: api.ItemWhole, N: -3}, {Kind: api.ItemFlag, N: 1}, {Kind: api.ItemText, S: "ab"}}, "\x41\x2c\x05\x01\x02ab"},
		{[]api.Item{{Kind: api.ItemFlag}, {Kind: api.ItemText}, {Kind: api.ItemNum}, {Kind: api.ItemWhole}}, "\x00\x00\x00\x00"},
		{[]api.Item{{Kind: api.ItemNum, N: api.MaxNum}}, "\xff\xff\xff\xff\xff\xff\xff\xff"},
		{[]api.Item{{Kind: api.ItemWhole, N: -api.MaxWhole - 1}}, "\xff\xff\xff\xff\xff\xff\xff\xff"},
		{[]api.Item{{Kind: api.ItemText, S: "\xff\x00"}}, "\x02\xff\x00"},
		{[]api.Item{{Kind: api.ItemText, S: long}}, "\x80\x01\x00\x00" + long},
		{make1(api.ItemFlag, api.MaxItems), strings.Repeat("\x00", api.MaxItems)},
	} {
		s, e := Put(c.l)
		if s != c.want || e != api.OK {
			t.Errorf("Put of %d items: %d bytes, %v", len(c.l), len(s), e)
		}
	}
}

// make1: that many items of a kind, with nothing else.
func make1(kind, count int) []api.Item {
	return slices.Repeat([]api.Item{{Kind: kind}}, count)
}

// Promise 1.2: what Put refuses, and in which order.
func TestPutErrors(t *testing.T) {
	for _, x := range []api.Item{
		{},
		{Kind: -1},
		{Kind: 5},
		{Kind: math.MaxInt},
		{Kind: api.ItemNum, N: -1},
		{Kind: api.ItemNum, N: api.MaxNum + 1},
		{Kind: api.ItemNum, S: "a"},
		{Kind: api.ItemWhole, N: api.MaxWhole + 1},
		{Kind: api.ItemWhole, N: -api.MaxWhole - 2},
		{Kind: api.ItemWhole, S: "a"},
		{Kind: api.ItemFlag, N: 2},
		{Kind: api.ItemFlag, N: -1},
		{Kind: api.ItemFlag, N: 256},
		{Kind: api.ItemFlag, N: 1, S: "a"},
		{Kind: api.ItemText, S: "a", N: 1},
		{Kind: api.ItemText, S: strings.Repeat("x", api.MaxText+1)},
	} {
		for _, l := range [][]api.Item{{x}, {{Kind: api.ItemNum}, x}, {x, {Kind: api.ItemNum}}} {
			if s, e := Put(l); s != "" || e != api.ErrArg {
				t.Errorf("Put of kind %d, N %d, %d bytes: %x, %v", x.Kind, x.N, len(x.S), s, e)
			}
		}
	}
	for _, kind := range []int{api.ItemNum, 0} {
		if s, e := Put(make1(kind, api.MaxItems+1)); s != "" || e != api.ErrLong {
			t.Errorf("Put of too many of kind %d: %x, %v", kind, s, e)
		}
	}
}

// Promise 1.2: Take and Row.
func TestTakeAndRow(t *testing.T) {
	kinds := []int{api.ItemNum, api.ItemWhole, api.ItemFlag, api.ItemText}
	s := "\x41\x2c\x05\x01\x02ab"
	want := []api.Item{{Kind: api.ItemNum, N: 300}, {Kind: api.ItemWhole, N: -3}, {Kind: api.ItemFlag, N: 1}, {Kind: api.ItemText, S: "ab"}}
	for _, behind := range []string{"", "z", "\xff"} {
		l, rest, e := Take(s+behind, kinds)
		if !slices.Equal(l, want) || rest != behind || e != api.OK {
			t.Errorf("Take(%x): %v, %x, %v", s+behind, l, rest, e)
		}
		l, e = Row(s+behind, kinds)
		if behind == "" && (!slices.Equal(l, want) || e != api.OK) {
			t.Errorf("Row: %v, %v", l, e)
		}
		if behind != "" && (len(l) != 0 || e != api.ErrLong) {
			t.Errorf("Row with %x behind: %v, %v", behind, l, e)
		}
	}
	for _, none := range [][]int{nil, {}} {
		if l, rest, e := Take("\xff", none); len(l) != 0 || rest != "\xff" || e != api.OK {
			t.Errorf("Take of no kinds: %v, %x, %v", l, rest, e)
		}
		if l, e := Row("", none); len(l) != 0 || e != api.OK {
			t.Errorf("Row of no kinds: %v, %v", l, e)
		}
		if l, e := Row("a", none); len(l) != 0 || e != api.ErrLong {
			t.Errorf("Row of no kinds, with something behind: %v, %v", l, e)
		}
	}
	text := strings.Repeat("x", api.MaxText)
	if l, e := Row("\x80\x01\x00\x00"+text, []int{api.ItemText}); len(l) != 1 || l[0].S != text || e != api.OK {
		t.Errorf("Row of the longest text: %v", e)
	}
	most := slices.Repeat([]int{api.ItemFlag}, api.MaxItems)
	if l, e := Row(strings.Repeat("\x01", api.MaxItems), most); len(l) != api.MaxItems || e != api.OK {
		t.Errorf("Row of the most items: %d, %v", len(l), e)
	}
}

// Promise 1.2: what Take and Row refuse, and in which order.
func TestTakeErrors(t *testing.T) {
	const n, w, f, x = api.ItemNum, api.ItemWhole, api.ItemFlag, api.ItemText
	many := slices.Repeat([]int{f}, api.MaxItems+1)
	for _, c := range []struct {
		s     string
		kinds []int
		want  api.Errno
	}{
		{strings.Repeat("\x00", api.MaxItems+1), many, api.ErrLong},
		{"", slices.Repeat([]int{0}, api.MaxItems+1), api.ErrLong},
		{"", []int{0}, api.ErrArg},
		{"\x00", []int{5}, api.ErrArg},
		{"\x00", []int{-1}, api.ErrArg},
		{"", []int{n, 9}, api.ErrArg}, // kinds are looked at ahead of bytes
		{"\x02", []int{f, math.MinInt}, api.ErrArg},
		{"", []int{n}, api.ErrShort},
		{"\x40", []int{n}, api.ErrShort},
		{"\x40\x25", []int{n}, api.ErrForm},
		{"", []int{w}, api.ErrShort},
		{"\x80\x00\x00", []int{w}, api.ErrShort},
		{"\x40\x01", []int{w}, api.ErrForm},
		{"", []int{f}, api.ErrShort},
		{"\x02", []int{f}, api.ErrForm},
		{"\xff", []int{f}, api.ErrForm},
		{"", []int{x}, api.ErrShort},
		{"\x40", []int{x}, api.ErrShort},
		{"\x40\x01a", []int{x}, api.ErrForm},
		{"\x80\x01\x00\x01", []int{x}, api.ErrLong}, // longer than it may be, ahead of bytes that end
		{"\x80\x01\x00\x01" + strings.Repeat("x", api.MaxText+1), []int{x}, api.ErrLong},
		{"\xff\xff\xff\xff\xff\xff\xff\xff", []int{x}, api.ErrLong},
		{"\x80\x01\x00\x00", []int{x}, api.ErrShort},
		{"\x03ab", []int{x}, api.ErrShort},
		{"\x05\x02\x40\x01", []int{n, f, n}, api.ErrForm}, // the first error of several
		{"\x05\x02", []int{n, f, x, n}, api.ErrForm},
		{"\x01a", []int{x, f}, api.ErrShort},
	} {
		if l, rest, e := Take(c.s, c.kinds); len(l) != 0 || rest != "" || e != c.want {
			t.Errorf("Take of %d bytes, %d kinds: %v, %x, %v, not %v", len(c.s), len(c.kinds), l, rest, e, c.want)
		}
		if l, e := Row(c.s, c.kinds); len(l) != 0 || e != c.want {
			t.Errorf("Row of %d bytes, %d kinds: %v, %v, not %v", len(c.s), len(c.kinds), l, e, c.want)
		}
	}
}

// Promise 1.3: List and Unlist.
func TestListAndUnlist(t *testing.T) {
	long := strings.Repeat("y", api.MaxText)
	for _, c := range []struct {
		l []string
		s string
	}{
		{nil, "\x00"},
		{[]string{}, "\x00"},
		{[]string{""}, "\x01\x00"},
		{[]string{"", "abc"}, "\x02\x00\x03abc"},
		{[]string{"\xff", "é"}, "\x02\x01\xff\x02é"},
		{[]string{long}, "\x01\x80\x01\x00\x00" + long},
		{make([]string, api.MaxItems), "\x50\x00" + strings.Repeat("\x00", api.MaxItems)},
	} {
		s, e := List(c.l)
		if s != c.s || e != api.OK {
			t.Errorf("List of %d: %d bytes, %v", len(c.l), len(s), e)
		}
		for _, behind := range []string{"", "q", "\x00"} {
			l, rest, e := Unlist(c.s + behind)
			if !slices.Equal(l, c.l) || rest != behind || e != api.OK {
				t.Errorf("Unlist of %d: %d, %x, %v", len(c.l), len(l), rest, e)
			}
		}
	}
}

// Promise 1.3: what List and Unlist refuse.
func TestListErrors(t *testing.T) {
	long := strings.Repeat("y", api.MaxText+1)
	for _, l := range [][]string{make([]string, api.MaxItems+1), {long}, {"a", long, "b"}} {
		if s, e := List(l); s != "" || e != api.ErrLong {
			t.Errorf("List of %d: %d bytes, %v", len(l), len(s), e)
		}
	}
	for s, want := range map[string]api.Errno{
		"":                     api.ErrShort,
		"\x40":                 api.ErrShort,
		"\x40\x01\x00":         api.ErrForm,
		"\x50\x01":             api.ErrLong, // too many, ahead of bytes that end
		"\x01":                 api.ErrShort,
		"\x01\x40":             api.ErrShort,
		"\x01\x40\x01a":        api.ErrForm,
		"\x01\x02a":            api.ErrShort,
		"\x02\x01a":            api.ErrShort,
		"\x02\x01a\x40\x01":    api.ErrForm,
		"\x01\x80\x01\x00\x01": api.ErrLong,
		"\x50\x00":             api.ErrShort,
		"\x50\x01" + strings.Repeat("\x00", api.MaxItems+1): api.ErrLong,
		"\xff\xff\xff\xff\xff\xff\xff\xff":                  api.ErrLong,
	} {
		if l, rest, e := Unlist(s); len(l) != 0 || rest != "" || e != want {
			t.Errorf("Unlist of %d bytes: %v, %x, %v, not %v", len(s), l, rest, e, want)
		}
	}
}

// Promise 1.4: what is written is read, whatever stands behind it.
func TestWrittenIsRead(t *testing.T) {
	r := rand.New(rand.NewSource(1))
	for range 2000 {
		row := someRow(r)
		kinds := make([]int, len(row))
		for i, x := range row {
			kinds[i] = x.Kind
		}
		s, e := Put(row)
		if e != api.OK {
			t.Fatalf("Put(%v): %v", row, e)
		}
		behind := someBytes(r, 5)
		l, rest, e := Take(s+behind, kinds)
		if !slices.Equal(l, row) || rest != behind || e != api.OK {
			t.Fatalf("Take(%x): %v, %x, %v, not %v", s+behind, l, rest, e, row)
		}
		texts := someTexts(r)
		s, e = List(texts)
		if e != api.OK {
			t.Fatalf("List(%q): %v", texts, e)
		}
		m, rest, e := Unlist(s + behind)
		if !slices.Equal(m, texts) || rest != behind || e != api.OK {
			t.Fatalf("Unlist(%x): %q, %x, %v, not %q", s+behind, m, rest, e, texts)
		}
	}
}

// Promise 1.4: in one way alone: what was read from bytes is written as just these.
func TestReadInOneWay(t *testing.T) {
	check := func(s string, kinds []int) {
		if l, rest, e := Take(s, kinds); e == api.OK {
			if again, _ := Put(l); again+rest != s {
				t.Fatalf("Take(%x, %v) is written as %x", s, kinds, again)
			}
		}
	}
	for i := range 1 << 16 {
		s := string([]byte{byte(i >> 8), byte(i)})
		for kind := api.ItemNum; kind <= api.ItemText; kind++ {
			check(s, []int{kind})
			check(s[1:], []int{kind})
		}
		if l, rest, e := Unlist(s + "\x00"); e == api.OK {
			if again, _ := List(l); again+rest != s+"\x00" {
				t.Fatalf("Unlist(%x00) is written as %x", s, again)
			}
		}
	}
	r := rand.New(rand.NewSource(2))
	for range 20000 {
		kinds := make([]int, r.Intn(4))
		for i := range kinds {
			kinds[i] = 1 + r.Intn(4)
		}
		check(someBytes(r, 12), kinds)
	}
}

func someBytes(r *rand.Rand, most int) string {
	out := make([]byte, r.Intn(most+1))
	r.Read(out)
	return string(out)
}

func someTexts(r *rand.Rand) []string {
	out := make([]string, r.Intn(5))
	for i := range out {
		out[i] = someBytes(r, 70)
	}
	return out
}

func someRow(r *rand.Rand) []api.Item {
	out := make([]api.Item, r.Intn(6))
	for i := range out {
		n := int(r.Uint64() >> (2 + r.Intn(62)))
		switch out[i].Kind = 1 + r.Intn(4); out[i].Kind {
		case api.ItemNum:
			out[i].N = n
		case api.ItemWhole:
			out[i].N = n - api.MaxWhole - 1
		case api.ItemFlag:
			out[i].N = n & 1
		case api.ItemText:
			out[i].S = someBytes(r, 70)
		}
	}
	return out
}

// Rules R1, R3: nothing handed in is changed, no answer is bound to another one, nothing is kept.
func TestListsStandAlone(t *testing.T) {
	row := []api.Item{{Kind: api.ItemText, S: "ab"}, {Kind: api.ItemNum, N: 7}}
	kinds := []int{api.ItemText, api.ItemNum}
	texts := []string{"a", "b"}
	wantRow, wantKinds, wantTexts := slices.Clone(row), slices.Clone(kinds), slices.Clone(texts)
	s, _ := Put(row)
	u, _ := List(texts)
	l1, _, _ := Take(s, kinds)
	l2, _ := Row(s, kinds)
	m1, _, _ := Unlist(u)
	for i := range l1 {
		l1[i], m1[i] = api.Item{}, ""
	}
	l3, _, _ := Take(s, kinds)
	m3, _, _ := Unlist(u)
	if !slices.Equal(l2, wantRow) || !slices.Equal(l3, wantRow) || !slices.Equal(m3, wantTexts) {
		t.Errorf("answers share memory: %v, %v, %q", l2, l3, m3)
	}
	if !slices.Equal(row, wantRow) || !slices.Equal(kinds, wantKinds) || !slices.Equal(texts, wantTexts) {
		t.Errorf("an argument was changed: %v, %v, %q", row, kinds, texts)
	}
}
