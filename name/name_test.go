package name

import (
	"math"
	"math/rand"
	"slices"
	"strings"
	"testing"
	"unicode/utf8"

	"caduceus/api"
)

// strange: texts that are not UTF-8: a lone byte, a cut rune, one written too long, half of a pair, one too high.
var strange = []string{"\xff", "a\x80", "\xc3", "A\xc3", "\xc0\x81", "\xed\xa0\x80", "\xf4\x90\x80\x80", "A.\xffB"}

// Promise 2.1: Letter.
func TestLetter(t *testing.T) {
	spans := [][2]rune{{'A', 'Z'}, {'a', 'z'}, {0xC0, 0xD6}, {0xD8, 0xF6}, {0xF8, 0x24F}, {0x391, 0x3A1}, {0x3A3, 0x3A9}, {0x3B1, 0x3C9}, {0x410, 0x44F}, {0x4E00, 0x9FFF}}
	for c := rune(-300); c <= utf8.MaxRune+300; c++ {
		want := slices.ContainsFunc(spans, func(s [2]rune) bool { return s[0] <= c && c <= s[1] })
		if Letter(c) != want {
			t.Errorf("Letter(%U): %v", c, !want)
		}
	}
	for _, c := range []rune{math.MinInt32, math.MaxInt32, '@', '[', '`', '{', '_', '-', '0', '.', 0xD7, 0xF7, 0x3A2, utf8.RuneError} {
		if Letter(c) {
			t.Errorf("Letter(%U)", c)
		}
	}
}

// Promise 2.1: Small.
func TestSmall(t *testing.T) {
	spans := [][2]rune{{'A', 'Z'}, {0xC0, 0xD6}, {0xD8, 0xDE}, {0x391, 0x3A1}, {0x3A3, 0x3A9}, {0x410, 0x42F}}
	for c := rune(-300); c <= utf8.MaxRune+300; c++ {
		want := c
		if slices.ContainsFunc(spans, func(s [2]rune) bool { return s[0] <= c && c <= s[1] }) {
			want = c + 32
		}
		if got := Small(c); got != want {
			t.Errorf("Small(%U): %U", c, got)
		}
	}
	for c, want := range map[rune]rune{'A': 'a', 'Z': 'z', 'É': 'é', 'Þ': 'þ', 'ß': 'ß', '×': '×', 'Ω': 'ω', 'ς': 'ς', 'Я': 'я', 'Ё': 'Ё', 'Ā': 'Ā', '中': '中', '[': '[', math.MinInt32: math.MinInt32, math.MaxInt32: math.MaxInt32} {
		if got := Small(c); got != want {
			t.Errorf("Small(%U): %U", c, got)
		}
	}
}

// Promise 2.1: Check.
func TestCheck(t *testing.T) {
	part := strings.Repeat("x", 7)
	for s, want := range map[string]api.Errno{
		"a": api.OK, "_": api.OK, "__": api.OK, "_-": api.OK, "a-": api.OK, "a--1": api.OK, "_0": api.OK,
		"Émile.x-1": api.OK, "Ω.中文": api.OK, "a.b.c.d.e": api.OK, "_._": api.OK, "Ёа": api.ErrForm, "Жя": api.OK,
		strings.Repeat("x", 40):                   api.OK,
		strings.Repeat("中", 40):                   api.OK,
		strings.Repeat(part+".", 4) + "xxxxxxxx":  api.OK, // 40 runes, the points among them
		strings.Repeat(part+".", 4) + "xxxxxxxxx": api.ErrLong,
		strings.Repeat("x", 41):                   api.ErrLong,
		strings.Repeat("中", 41):                   api.ErrLong,
		"a.b.c.d.e.f":                             api.ErrLong,
		strings.Repeat("a.", 60) + "a":            api.ErrLong,
		"":                                        api.ErrForm,
		".":                                       api.ErrForm,
		".a":                                      api.ErrForm,
		"a.":                                      api.ErrForm,
		"a..b":                                    api.ErrForm,
		"1a":                                      api.ErrForm,
		"-a":                                      api.ErrForm,
		"a.1":                                     api.ErrForm,
		"a.-":                                     api.ErrForm,
		"a b":                                     api.ErrForm,
		" a":                                      api.ErrForm,
		"a\n":                                     api.ErrForm,
		"a\x00":                                   api.ErrForm,
		"a×":                                      api.ErrForm,
		"÷a":                                      api.ErrForm,
		"a\u03a2":                                 api.ErrForm,
		"a\ufffd":                                 api.ErrForm,
		"a:b":                                     api.ErrForm,
		"a+b":                                     api.ErrForm,
		"a/b":                                     api.ErrForm,
		"a٣":                                      api.ErrForm, // a digit, but none of 0 to 9
		strings.Repeat("x", 41) + ".":             api.ErrForm, // the form ahead of how long it is
		strings.Repeat("x", 41) + "\xff":          api.ErrForm,
		"a.b.c.d.e.":                              api.ErrForm,
		"a.b.c.d.e.f.1":                           api.ErrForm,
	} {
		if e := Check(s); e != want {
			t.Errorf("Check(%q): %v, not %v", s, e, want)
		}
	}
	for _, s := range strange {
		if e := Check(s); e != api.ErrForm {
			t.Errorf("Check(%q): %v", s, e)
		}
	}
}

// Promise 2.2: Fold, Same.
func TestFoldAndSame(t *testing.T) {
	for s, want := range map[string]string{
		"":              "",
		"Émile.x-1":     "émile.x-1",
		"ÉMILE.X-1":     "émile.x-1",
		"ÉMILE.ΩЖ×中-A":  "émile.ωж×中-a",
		"ÀÞ÷ßΑΡΣΩАЯ":    "àþ÷ßαρσωая",
		"\u03a2ĀЁ":      "\u03a2ĀЁ",
		"A b\tC":        "a b\tc",
		"\ufffdA":       "\ufffda",
		"\U0001F600Z":   "\U0001F600z",
		"..1A":          "..1a",
		"\x00A\u007fÿŸ": "\x00a\u007fÿŸ",
	} {
		if got := Fold(s); got != want {
			t.Errorf("Fold(%q): %q", s, got)
		}
		if !Same(s, want) || !Same(want, s) {
			t.Errorf("%q and %q are not the same", s, want)
		}
	}
	for _, s := range strange {
		if got := Fold(s); got != s {
			t.Errorf("Fold(%q): %q", s, got)
		}
		if !Same(s, s) {
			t.Errorf("%q is not the same as itself", s)
		}
	}
	if Same("a", "b") || Same("", "a") || Same("A\xff", "a\xff") || Same("\xff", "\ufffd") || Same("Ё", "ё") {
		t.Errorf("Same of texts that are not")
	}
}

// Promise 2.2: Compare.
func TestCompare(t *testing.T) {
	rising := []string{"", "-", "1", "A", "a-", "AB", "ac", "a\u007f", "B", "z", "é", "ÿ", "Ā", "Ω", "я", "中", "\ue000", "\ufffd", "\U00010000"}
	for i, a := range rising {
		for j, b := range rising {
			want := min(1, max(-1, i-j))
			if got := Compare(a, b); got != want {
				t.Errorf("Compare(%q, %q): %d", a, b, got)
			}
		}
	}
	for _, c := range []struct {
		a, b string
		want int
	}{
		{"Émile", "ÉMILE", 0},
		{"Z", "é", -1},
		{"_", "A", -1}, // folded a stands behind _, though A stands ahead of it
		{"a", "\xff", -1},
		{"\xff", "a", 1},
		{"\xff", "\xff", 0},
		{"A\xff", "a\xff", -1}, // neither is folded
		{"A\xff", "A", -1},     // only the second one is folded
		{"B", "A\xff", 1},
		{"A\xff", "a", -1},
		{"\xc3", "é", -1},
		{"\xff", "\xfe", 1},
	} {
		if got := Compare(c.a, c.b); got != c.want {
			t.Errorf("Compare(%q, %q): %d, not %d", c.a, c.b, got, c.want)
		}
	}
}

// Promise 2.2: Same and Compare are Fold's, of any two texts.
func TestCompareIsFolds(t *testing.T) {
	pieces := []string{"A", "a", "B", "É", "é", "×", "÷", "Ā", "Σ", "ς", "σ", "\u03a2", "Я", "я", "中", "\ufffd", "\U0001F600", "\xff", "\xc3", "-", "."}
	r := rand.New(rand.NewSource(4))
	some := func() (s string) {
		for range r.Intn(4) {
			s += pieces[r.Intn(len(pieces))]
		}
		return s
	}
	for range 30000 {
		a, b := some(), some()
		if want := strings.Compare(Fold(a), Fold(b)); Compare(a, b) != want || Same(a, b) != (want == 0) {
			t.Fatalf("%q and %q: Compare %d, Same %v", a, b, Compare(a, b), Same(a, b))
		}
	}
}

// Promise 2.2: Runes.
func TestRunes(t *testing.T) {
	for s, want := range map[string]int{"": 0, "a": 1, "éa中": 3, "\ufffd": 1, "\x00": 1, "\U0010ffff": 1, strings.Repeat("é", 1000): 1000} {
		if got := Runes(s); got != want {
			t.Errorf("Runes(%q): %d", s, got)
		}
	}
	for _, s := range strange {
		if got := Runes(s); got != -1 {
			t.Errorf("Runes(%q): %d", s, got)
		}
	}
}

// notNames: of each fault one.
var notNames = []string{"", ".", ".a", "a.", "a..b", "1a", "a b", "\xff", "a.\xff", "a.b.c.d.e.f", strings.Repeat("x", 41)}

// Promise 2.3: Parts.
func TestParts(t *testing.T) {
	for s, want := range map[string][]string{"a": {"a"}, "Émile.x-1": {"Émile", "x-1"}, "a.Bc._.d.E": {"a", "Bc", "_", "d", "E"}} {
		if got := Parts(s); !slices.Equal(got, want) {
			t.Errorf("Parts(%q): %q", s, got)
		}
	}
	for _, s := range notNames {
		if got := Parts(s); len(got) != 0 {
			t.Errorf("Parts(%q): %q", s, got)
		}
	}
	first := Parts("a.b")
	first[0] = "z"
	if again := Parts("a.b"); !slices.Equal(again, []string{"a", "b"}) {
		t.Errorf("an answer was changed through another one: %q", again)
	}
}

// Promise 2.3: Under.
func TestUnder(t *testing.T) {
	for _, c := range []struct {
		s, of string
		want  bool
	}{
		{"News.Sport.Golf", "news.sport", true},
		{"News.Sport", "NEWS", true},
		{"news", "News", true},
		{"Émile.Ω.x", "éMILE.ω", true},
		{"a.b.c.d.e", "a.b.c.d.e", true},
		{"news.sports", "news.sport", false},
		{"news.sport-x", "news.sport", false},
		{"newsx", "news", false},
		{"news", "news.sport", false},
		{"x.news", "news", false},
		{"a", "b", false},
	} {
		if got := Under(c.s, c.of); got != c.want {
			t.Errorf("Under(%q, %q): %v", c.s, c.of, got)
		}
	}
	for _, s := range notNames {
		if Under(s, "a") || Under("a", s) || Under(s, s) {
			t.Errorf("Under of %q, which is no name", s)
		}
	}
}

// Promise 2.3: Hash, Key.
func TestHashAndKey(t *testing.T) {
	for s, want := range map[string]uint64{
		"":       0xcbf29ce484222325,
		"a":      0xaf63dc4c8601ec8c,
		"foobar": 0x85944171f73967e8,
	} {
		if got := Hash(s); got != want {
			t.Errorf("Hash(%q): %x", s, got)
		}
		if got := Key(strings.ToUpper(s)); got != want {
			t.Errorf("Key of %q in capitals: %x", s, got)
		}
	}
	if Hash("A") == Hash("a") {
		t.Errorf("Hash folds")
	}
	if Hash("\xff") != (0xcbf29ce484222325^0xff)*0x100000001b3&math.MaxUint64 {
		t.Errorf("Hash of a byte above 127: %x", Hash("\xff"))
	}
	for _, s := range strange {
		if Key(s) != Hash(s) {
			t.Errorf("Key(%q) is not of the text itself", s)
		}
	}
	if Key("ÉΩЖ") != Hash("éωж") || Key("1 A") != Hash("1 a") {
		t.Errorf("Key is not of the folded text")
	}
}

// Promise 2.4: what follows of names.
func TestWhatFollows(t *testing.T) {
	r := rand.New(rand.NewSource(3))
	others := make([]string, 20)
	for i := range others {
		others[i] = someName(r)
	}
	for range 3000 {
		s := someName(r)
		if Check(s) != api.OK {
			t.Fatalf("%q is no name", s)
		}
		f := Fold(s)
		if Check(f) != api.OK || Fold(f) != f || !Same(s, f) || Key(s) != Key(f) || Compare(s, f) != 0 {
			t.Fatalf("%q folded: %q", s, f)
		}
		if got := strings.Join(Parts(s), "."); got != s {
			t.Fatalf("the parts of %q: %q", s, got)
		}
		for _, o := range others {
			if Compare(s, o) != Compare(f, o) || Compare(o, s) != -Compare(s, o) || Same(s, o) != (Compare(s, o) == 0) || Under(s, o) != Under(f, o) {
				t.Fatalf("%q and its folded one stand otherwise to %q", s, o)
			}
		}
	}
}

func someName(r *rand.Rand) string {
	begin := []rune{'A', 'z', '_', 'É', 'þ', 'Ā', 'Σ', 'ς', 'Я', 'ж', '中'}
	all := append(slices.Clone(begin), '0', '9', '-')
	parts := make([]string, 1+r.Intn(5))
	for i := range parts {
		out := []rune{begin[r.Intn(len(begin))]}
		for range r.Intn(7) {
			out = append(out, all[r.Intn(len(all))])
		}
		parts[i] = string(out)
	}
	return strings.Join(parts, ".")
}
