package value

import (
	"math"
	"math/rand"
	"slices"
	"strings"
	"testing"

	"caduceus/api"
	"caduceus/quic"
)

func num(n int) api.Value       { return api.Value{Kind: api.KindInt, N: n} }
func text(s string) api.Value   { return api.Value{Kind: api.KindText, S: s} }
func raw(s string) api.Value    { return api.Value{Kind: api.KindBytes, S: s} }
func truth(n int) api.Value     { return api.Value{Kind: api.KindBool, N: n} }
func as(s string, n int) string { return strings.Repeat(s, n) }

var none api.Value

// literals: values that may be, by their literals.
var literals = map[string]api.Value{
	"0":                            num(0),
	"7":                            num(7),
	"10":                           num(10),
	"-1":                           num(-1),
	"-120":                         num(-120),
	"1000000000000000":             num(1000000000000000),
	"9007199254740991":             num(api.MaxInt),
	"-9007199254740991":            num(-api.MaxInt),
	"true":                         truth(1),
	"false":                        truth(0),
	"x''":                          raw(""),
	"x'00ff'":                      raw("\x00\xff"),
	"x'0123456789abcdef'":          raw("\x01\x23\x45\x67\x89\xab\xcd\xef"),
	"x'" + as("27", 200) + "'":     raw(as("'", 200)),
	`""`:                           text(""),
	`"a\"é\n\u{1}"`:                text("a\"é\n\x01"),
	`"\\\\n"`:                      text(`\\n`),
	`"\t\r\n"`:                     text("\t\r\n"),
	`"\u{0}\u{8}\u{b}\u{1f}"`:      text("\x00\x08\x0b\x1f"),
	`"\u{7f}~ '{}"`:                text("\x7f~ '{}"),
	"\"\u0080\u0085\u2028\ufeff\"": text("\u0080\u0085\u2028\ufeff"),
	"\"\ufffd\U0010ffff\"":         text("\ufffd\U0010ffff"),
	`"` + as("é", 100) + `"`:       text(as("é", 100)),
	`"` + as(`\u{1}`, 200) + `"`:   text(as("\x01", 200)),
	`"` + as("a", 200) + `"`:       text(as("a", 200)),
}

// wrong: values that may not be.
var wrong = []api.Value{
	{},
	{Kind: -1},
	{Kind: 5},
	{Kind: math.MaxInt, S: "a"},
	{N: 1},
	{S: "a"},
	num(api.MaxInt + 1),
	num(-api.MaxInt - 1),
	num(math.MaxInt),
	num(math.MinInt),
	{Kind: api.KindInt, N: 1, S: "a"},
	{Kind: api.KindText, N: 1, S: "a"},
	{Kind: api.KindText, N: -1},
	text("\xff"),
	text("a\xc3"),
	text("\xed\xa0\x80"),
	text(as("a", 201)),
	text(as("é", 100) + "a"),
	truth(2),
	truth(-1),
	{Kind: api.KindBool, N: 1, S: "a"},
	{Kind: api.KindBool, S: "a"},
	{Kind: api.KindBytes, N: 1},
	raw(as("\x00", 201)),
}

// Promise 3.1: Check and Show.
func TestCheckAndShow(t *testing.T) {
	for s, v := range literals {
		if !Check(v) {
			t.Errorf("Check(%v): it may be", v)
		}
		if got := Show(v); got != s {
			t.Errorf("Show(%v): %s, not %s", v, got, s)
		}
	}
	for _, v := range wrong {
		if Check(v) {
			t.Errorf("Check(%v): it may not be", v)
		}
		if got := Show(v); got != "" {
			t.Errorf("Show(%v): %s of what may not be", v, got)
		}
	}
}

// Promise 3.1: each rune below U+0080 is written in the way that the document says.
func TestShowRunes(t *testing.T) {
	for c := range rune(0x80) {
		want := string(c)
		switch {
		case c == '"' || c == '\\':
			want = `\` + want
		case c == 10:
			want = `\n`
		case c == 9:
			want = `\t`
		case c == 13:
			want = `\r`
		case c == 127:
			want = `\u{7f}`
		case c < 16:
			want = `\u{` + hexes[c:c+1] + "}"
		case c < 32:
			want = `\u{1` + hexes[c-16:c-15] + "}"
		}
		if got := Show(text(string(c))); got != `"`+want+`"` {
			t.Errorf("Show of U+%04x: %s", c, got)
		}
	}
}

// Promise 3.1: any two stand, also those that may not be.
func TestCompare(t *testing.T) {
	rising := []api.Value{
		{Kind: math.MinInt, N: 9, S: "z"},
		{Kind: -1, N: 1},
		{},
		{S: "a"},
		{N: 1},
		num(math.MinInt),
		num(-api.MaxInt),
		num(-1),
		num(0),
		{Kind: api.KindInt, S: "a"},
		num(1),
		num(10),
		num(math.MaxInt),
		text(""),
		text("A"),
		text("a"),
		text("a\x00"),
		text("aa"),
		text("b"),
		text("\ufffd"),
		text("\U00010000"),
		text("\xff"),
		{Kind: api.KindText, N: 1},
		truth(0),
		truth(1),
		raw(""),
		raw("\x00"),
		raw("\x7f"),
		raw("\x80"),
		raw("\xff"),
		{Kind: math.MaxInt, N: -9},
	}
	for i, a := range rising {
		for j, b := range rising {
			want := 0
			if i < j {
				want = -1
			} else if i > j {
				want = 1
			}
			if got := Compare(a, b); got != want {
				t.Errorf("Compare(%v, %v): %d, not %d", a, b, got, want)
			}
		}
	}
}

// Promise 3.2: Scan and Parse of what is there.
func TestScanAndParse(t *testing.T) {
	for s, want := range literals {
		if v, e := Parse(s); v != want || e != api.OK {
			t.Errorf("Parse(%s): %v, %v", s, v, e)
		}
		for _, behind := range []string{"", ")", " 1", ", x", "=", "\"", "'", "\xff", "\x00", ".", "+", "\u00d7", "\u0250"} {
			if v, rest, e := Scan(s + behind); v != want || rest != behind || e != api.OK {
				t.Errorf("Scan(%s): %v, %q, %v", s+behind, v, rest, e)
			}
			if v, e := Parse(s + behind); behind != "" && (v != none || e != api.ErrForm) {
				t.Errorf("Parse(%s): %v, %v with something behind", s+behind, v, e)
			}
		}
	}
	for _, c := range []struct {
		s    string
		want api.Value
		rest string
	}{
		{"12a", num(12), "a"},
		{"12-3", num(12), "-3"},
		{"-5.0", num(-5), ".0"},
		{"0x'00'", num(0), "x'00'"},
		{"0-0", num(0), "-0"},
		{"1e5", num(1), "e5"},
		{"x''x''", raw(""), "x''"},
		{"x'aa'true", raw("\xaa"), "true"},
		{`"a"b"`, text("a"), `b"`},
		{`""_`, text(""), "_"},
		{"12\u0661", num(12), "\u0661"},
	} {
		if v, rest, e := Scan(c.s); v != c.want || rest != c.rest || e != api.OK {
			t.Errorf("Scan(%s): %v, %q, %v", c.s, v, rest, e)
		}
	}
}

// Promise 3.2: what goes on behind true and false.
func TestScanWords(t *testing.T) {
	for _, word := range []string{"true", "false"} {
		for _, behind := range []string{"a", "Z", "é", "\u0391", "я", "中", "0", "9", "_", "-", "e", "-1", "a\xff"} {
			if v, rest, e := Scan(word + behind); v != none || rest != "" || e != api.ErrForm {
				t.Errorf("Scan(%s): %v, %q, %v", word+behind, v, rest, e)
			}
		}
	}
}

// Promise 3.2: what has no form; that comes ahead of being too long.
func TestScanErrors(t *testing.T) {
	long := as("a", 201)
	for want, l := range map[api.Errno][]string{
		api.ErrForm: {
			"", " ", " 1", "+1", "-", "--1", "- 1", "-a", "-0", "-01", "00", "01", "007", "-007", "0" + as("1", 16), as("0", 17), "-0" + as("9", 20), ".5", "a", "\u0661",
			"t", "tru", "True", "TRUE", "f", "fals", "False", "truth", "null",
			"x", "x'", "x'0", "x'0'", "x'000'", "x'0g'", "x'g0'", "x'AB'", "x'aB'", "x'0 '", "x' 0'", "x'\"", "X'00'", "x\"00\"", "x 'aa'", "x'aa", "x'é'", "x'\xff\xff'",
			"x'" + as("aa", 201), "x'" + as("aa", 201) + "a'", "x'" + as("aa", 201) + "gg'",
			`"`, `"a`, `'a'`, `"a'`, `"\"`, `"\`, `"\a"`, `"\N"`, `"\x41"`, `"\'"`, `"\0"`, `"\u"`, `"\u{"`, `"\u{}"`, `"\u{1"`, `"\u{1`, `"\u1}"`, `"\u(1}"`, `"\u{01}"`, `"\u{00}"`, `"\u{1F}"`, `"\u{7F}"`, `"\u{007f}"`, `"\u{ 1}"`, `"\u{+1}"`, `"\u{-1}"`,
			`"\u{9}"`, `"\u{a}"`, `"\u{d}"`, `"\u{20}"`, `"\u{22}"`, `"\u{5c}"`, `"\u{41}"`, `"\u{80}"`, `"\u{e9}"`, `"\u{ff}"`, `"\u{100}"`, `"\u{17f}"`, `"\u{g}"`, `"\U{1}"`, `"\u{1_f}"`,
			"\"\n\"", "\"\t\"", "\"\r\"", "\"\x00\"", "\"\x1f\"", "\"\x7f\"", "\"\xff\"", "\"a\xc3\"", "\"\xed\xa0\x80\"", "\"\xc0\xaf\"", "\"\\\n\"", "\"\\é\"",
			`"` + long, `"` + long + "\xff\"", `"` + long + `\q"`, `"` + long + "\n\"",
		},
		api.ErrLong: {
			"9007199254740992", "-9007199254740992", "9999999999999999", "10000000000000000", "12345678901234567", "-12345678901234567", as("9", 400), "9007199254740992 ", "9223372036854775808", "18446744073709551617",
			"x'" + as("aa", 201) + "'", "x'" + as("00", 1000) + "' behind",
			`"` + long + `"`, `"` + long + `" behind`, `"` + as("é", 100) + `a"`, `"` + as(`\n`, 201) + `"`, `"` + as("\U0010ffff", 51) + `"`,
		},
	} {
		for _, s := range l {
			if v, rest, e := Scan(s); v != none || rest != "" || e != want {
				t.Errorf("Scan(%q): %v, %q, %v, not %v", s, v, rest, e, want)
			}
			if v, e := Parse(s); v != none || e != want {
				t.Errorf("Parse(%q): %v, %v, not %v", s, v, e, want)
			}
		}
	}
}

// Promise 3.3: Text, and Read of what is written.
func TestTextAndRead(t *testing.T) {
	for s, v := range map[string]api.Value{
		"\x01\x00":                             num(0),
		"\x01\x01":                             num(-1),
		"\x01\x0a":                             num(5),
		"\x01\xc0\x3f\xff\xff\xff\xff\xff\xfe": num(api.MaxInt),
		"\x01\xc0\x3f\xff\xff\xff\xff\xff\xfd": num(-api.MaxInt),
		"\x02\x00":                             text(""),
		"\x02\x03\xc3\xa9a":                    text("éa"),
		"\x02\x40\xc8" + as("a", 200):          text(as("a", 200)),
		"\x03\x00":                             truth(0),
		"\x03\x01":                             truth(1),
		"\x04\x00":                             raw(""),
		"\x04\x02\x00\xff":                     raw("\x00\xff"),
		"\x04\x40\xc8" + as("\xff", 200):       raw(as("\xff", 200)),
	} {
		if got := Text(v); got != s {
			t.Errorf("Text(%v): %x, not %x", v, got, s)
		}
		for _, behind := range []string{"", "q", "\xff\x00"} {
			if got, rest, e := Read(s + behind); got != v || rest != behind || e != api.OK {
				t.Errorf("Read(%x): %v, %x, %v", s+behind, got, rest, e)
			}
		}
		for i := range len(s) {
			if got, rest, e := Read(s[:i]); got != none || rest != "" || e != api.ErrShort {
				t.Errorf("Read(%x): %v, %x, %v of bytes that end", s[:i], got, rest, e)
			}
		}
	}
	for _, v := range wrong {
		if got := Text(v); got != "" {
			t.Errorf("Text(%v): %x of what may not be", v, got)
		}
	}
}

// Promise 3.3: what Read refuses.
func TestReadErrors(t *testing.T) {
	for s, want := range map[string]api.Errno{
		"":                                 api.ErrShort,
		"\x40":                             api.ErrShort,
		"\x40\x01\x00":                     api.ErrForm, // the kind is not in the shortest form
		"\x00":                             api.ErrKind,
		"\x00\x00":                         api.ErrKind,
		"\x05":                             api.ErrKind,
		"\x05\x40\x00":                     api.ErrKind,
		"\xff\xff\xff\xff\xff\xff\xff\xff": api.ErrKind,
		"\x01":                             api.ErrShort,
		"\x01\x40\x01":                     api.ErrForm,
		"\x01" + quic.Whole(api.MaxInt+1):  api.ErrForm,
		"\x01" + quic.Whole(-api.MaxInt-1): api.ErrForm,
		"\x01" + quic.Whole(api.MaxWhole):  api.ErrForm,
		"\x02\x01":                         api.ErrShort,
		"\x02\x01\xff":                     api.ErrForm,
		"\x02\x40\xc9" + as("a", 201):      api.ErrForm,
		"\x02\x40\xc9" + as("a", 200):      api.ErrShort,
		"\x02" + quic.Num(api.MaxText+1):   api.ErrLong,
		"\x03":                             api.ErrShort,
		"\x03\x02":                         api.ErrForm,
		"\x04\x40\xc9" + as("a", 201):      api.ErrForm,
		"\x04\x02a":                        api.ErrShort,
		"\x04" + quic.Num(api.MaxText+1):   api.ErrLong,
	} {
		if v, rest, e := Read(s); v != none || rest != "" || e != want {
			t.Errorf("Read(%x): %v, %x, %v, not %v", s, v, rest, e, want)
		}
	}
}

// Promise 3.4: Any.
func TestAny(t *testing.T) {
	for want, v := range map[any]api.Value{-5: num(-5), 0: num(0), "": text(""), "é": text("é"), true: truth(1), false: truth(0)} {
		if got := Any(v); got != want {
			t.Errorf("Any(%v): %v, not %v", v, got, want)
		}
	}
	for _, s := range []string{"", "a", "\x00\xff"} {
		if got, is := Any(raw(s)).([]byte); !is || string(got) != s {
			t.Errorf("Any of bytes %x: %v", s, got)
		}
	}
	for _, v := range wrong {
		if got := Any(v); got != nil {
			t.Errorf("Any(%v): %v of what may not be", v, got)
		}
	}
}

type ownInt int
type ownText string
type ownBytes []byte

// Promise 3.4: From.
func TestFrom(t *testing.T) {
	for _, c := range []struct {
		x    any
		want api.Value
		e    api.Errno
	}{
		{0, num(0), api.OK},
		{api.MaxInt, num(api.MaxInt), api.OK},
		{-api.MaxInt, num(-api.MaxInt), api.OK},
		{api.MaxInt + 1, none, api.ErrArg},
		{-api.MaxInt - 1, none, api.ErrArg},
		{math.MinInt, none, api.ErrArg},
		{"", text(""), api.OK},
		{"a\x00é", text("a\x00é"), api.OK},
		{as("a", 200), text(as("a", 200)), api.OK},
		{as("a", 201), none, api.ErrArg},
		{"\xff", none, api.ErrArg},
		{true, truth(1), api.OK},
		{false, truth(0), api.OK},
		{[]byte(nil), raw(""), api.OK},
		{[]byte{}, raw(""), api.OK},
		{[]byte{0, 255}, raw("\x00\xff"), api.OK},
		{make([]byte, 200), raw(as("\x00", 200)), api.OK},
		{make([]byte, 201), none, api.ErrArg},
		{nil, none, api.ErrKind},
		{1.5, none, api.ErrKind},
		{int64(1), none, api.ErrKind},
		{uint(1), none, api.ErrKind},
		{byte(1), none, api.ErrKind},
		{'a', none, api.ErrKind},
		{ownInt(1), none, api.ErrKind},
		{ownText("a"), none, api.ErrKind},
		{ownBytes("a"), none, api.ErrKind},
		{[]rune{1}, none, api.ErrKind},
		{[]string{"a"}, none, api.ErrKind},
		{[1]byte{1}, none, api.ErrKind},
		{new(int), none, api.ErrKind},
		{num(1), none, api.ErrKind},
		{api.OK, none, api.ErrKind},
		{(*string)(nil), none, api.ErrKind},
		{struct{}{}, none, api.ErrKind},
	} {
		if v, e := From(c.x); v != c.want || e != c.e {
			t.Errorf("From(%v): %v, %v, not %v, %v", c.x, v, e, c.want, c.e)
		}
	}
}

// R3: bytes are neither kept nor shared.
func TestNothingIsShared(t *testing.T) {
	in := []byte("abc")
	v, _ := From(in)
	in[0] = 'z'
	if v != raw("abc") {
		t.Errorf("From kept its argument: %v", v)
	}
	first, _ := Any(v).([]byte)
	first[0] = 'y'
	if second, _ := Any(v).([]byte); string(second) != "abc" || v != raw("abc") {
		t.Errorf("Any shares what it answers: %s", second)
	}
}

// someValue: one that may be, often at an edge.
func someValue(r *rand.Rand) api.Value {
	pieces := []string{"a", `"`, `\`, "\n", "\t", "\r", "\x00", "\x1f", "\x7f", "é", "中", "\U0001f600", "\ufffd", "'", "{", "}", "u", "0", " "}
	s := ""
	for range r.Intn(12) {
		s += pieces[r.Intn(len(pieces))]
	}
	switch r.Intn(4) {
	case 0:
		return num(r.Intn(2*api.MaxInt+1) - api.MaxInt)
	case 1:
		return truth(r.Intn(2))
	case 2:
		return raw(s + string([]byte{byte(r.Intn(256))}))
	}
	return text(s)
}

// Promise 3.5: what is shown and written is read as it was; what Any hands out From takes back.
func TestThereAndBack(t *testing.T) {
	r := rand.New(rand.NewSource(3))
	for range 5000 {
		v := someValue(r)
		if got, rest, e := Scan(Show(v) + ")q"); got != v || rest != ")q" || e != api.OK {
			t.Fatalf("Scan of %s: %v, %q, %v", Show(v), got, rest, e)
		}
		if got, rest, e := Read(Text(v) + "q"); got != v || rest != "q" || e != api.OK {
			t.Fatalf("Read of %v: %v, %q, %v", v, got, rest, e)
		}
		if got, e := From(Any(v)); got != v || e != api.OK {
			t.Fatalf("From(Any(%v)): %v, %v", v, got, e)
		}
	}
}

// Promise 3.5: what is parsed is shown as it stood, what is read was written in one way alone, whatever the text was.
func TestOneWayAlone(t *testing.T) {
	r := rand.New(rand.NewSource(5))
	var read, parsed int
	for range 200000 {
		s := []byte(Show(someValue(r)))
		b := []byte(Text(someValue(r)))
		for range r.Intn(3) {
			s = slices.Replace(s, r.Intn(len(s)), len(s), []byte(Show(someValue(r)))...)
			b[r.Intn(len(b))] = byte(r.Intn(256))
		}
		if v, e := Parse(string(s)); e == api.OK {
			parsed++
			if Show(v) != string(s) {
				t.Fatalf("Parse(%s) is shown as %s", s, Show(v))
			}
		}
		if v, rest, e := Read(string(b)); e == api.OK {
			read++
			if Text(v)+rest != string(b) {
				t.Fatalf("Read(%x) is written as %x", b, Text(v))
			}
		}
	}
	if read < 1000 || parsed < 1000 {
		t.Errorf("too few: %d, %d", read, parsed)
	}
}

// R1: no text and no bytes make a call panic.
func FuzzAnyBytes(f *testing.F) {
	for s := range literals {
		f.Add(s)
	}
	f.Fuzz(func(t *testing.T, s string) {
		v, rest, e := Scan(s)
		if e == api.OK && Show(v)+rest != s || e != api.OK && (v != none || rest != "") {
			t.Errorf("Scan(%q): %v, %q, %v", s, v, rest, e)
		}
		v, rest, e = Read(s)
		if e == api.OK && Text(v)+rest != s || e != api.OK && (v != none || rest != "") {
			t.Errorf("Read(%q): %v, %q, %v", s, v, rest, e)
		}
	})
}
