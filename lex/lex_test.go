package lex

import (
	"math"
	"math/rand"
	"slices"
	"strings"
	"testing"
	"unicode/utf8"

	"caduceus/api"
	"caduceus/name"
	"caduceus/value"
)

func word(at int, s string) api.Token { return api.Token{Kind: api.TokWord, At: at, S: s} }
func mark(at int, s string) api.Token { return api.Token{Kind: api.TokMark, At: at, S: s} }

// lit: the token of a literal.
func lit(at int, s string) api.Token {
	v, e := value.Parse(s)
	if e != api.OK {
		panic(s + " is no literal")
	}
	return api.Token{Kind: api.TokValue, At: at, V: v}
}

func as(s string, n int) string { return strings.Repeat(s, n) }

// tokens: of texts, as they are cut.
var tokens = map[string][]api.Token{
	"":           nil,
	" \t\n\r  ":  nil,
	"a":          {word(0, "a")},
	"\r\n\ta \n": {word(3, "a")},
	`a >= -5 and b in {"x"}`: {
		word(0, "a"), mark(2, ">="), lit(5, "-5"), word(8, "and"), word(12, "b"), word(14, "in"), mark(17, "{"), lit(18, `"x"`), mark(21, "}"),
	},
	"ÉMILE=\"é\",ü": {word(0, "ÉMILE"), mark(5, "="), lit(6, `"é"`), mark(9, ","), word(10, "ü")},
	"Д中_α-9,":       {word(0, "Д中_α-9"), mark(6, ",")},
	"_":             {word(0, "_")},
	"_- _1":         {word(0, "_-"), word(3, "_1")},
	"a-5 -5":        {word(0, "a-5"), lit(4, "-5")},
	"=!=<<=>>={}(),": {
		mark(0, "="), mark(1, "!="), mark(3, "<"), mark(4, "<="), mark(6, ">"), mark(7, ">="), mark(9, "{"), mark(10, "}"), mark(11, "("), mark(12, ")"), mark(13, ","),
	},
	"===":              {mark(0, "="), mark(1, "="), mark(2, "=")},
	"=<=>":             {mark(0, "="), mark(1, "<="), mark(3, ">")},
	"=!==":             {mark(0, "="), mark(1, "!="), mark(3, "=")},
	"<>= < =":          {mark(0, "<"), mark(1, ">="), mark(4, "<"), mark(6, "=")},
	"0=0":              {lit(0, "0"), mark(1, "="), lit(2, "0")},
	"5(5)5,-5{":        {lit(0, "5"), mark(1, "("), lit(2, "5"), mark(3, ")"), lit(4, "5"), mark(5, ","), lit(6, "-5"), mark(8, "{")},
	`1"a""b"{1`:        {lit(0, "1"), lit(1, `"a"`), lit(4, `"b"`), mark(7, "{"), lit(8, "1")},
	"true false":       {lit(0, "true"), lit(5, "false")},
	"true=false":       {lit(0, "true"), mark(4, "="), lit(5, "false")},
	"truex true_ true": {word(0, "truex"), word(6, "true_"), lit(12, "true")},
	"true1 false- é":   {word(0, "true1"), word(6, "false-"), word(13, "é")},
	"trueé falsed":     {word(0, "trueé"), word(6, "falsed")},
	"True FALSE":       {word(0, "True"), word(5, "FALSE")},
	"x'' x'00ff'{x}":   {lit(0, "x''"), lit(4, "x'00ff'"), mark(11, "{"), word(12, "x"), mark(13, "}")},
	"x X xx":           {word(0, "x"), word(2, "X"), word(4, "xx")},
	`"a\"\\" "\n"`:     {lit(0, `"a\"\\"`), lit(8, `"\n"`)},
	"\"\u2028 é\" \"\"": {
		lit(0, "\"\u2028 é\""), lit(6, `""`),
	},
	"9007199254740991 -9007199254740991": {lit(0, "9007199254740991"), lit(17, "-9007199254740991")},
	as("a", 1000):                        {word(0, as("a", 1000))},
	`"` + as("é", 100) + `"`:             {lit(0, `"`+as("é", 100)+`"`)},
	"x'" + as("ab", 200) + "'":           {lit(0, "x'"+as("ab", 200)+"'")},
}

// Promise 7.1: the tokens, their places, and how many runes there are.
func TestLex(t *testing.T) {
	for s, want := range tokens {
		if l, at, e := Lex(s); e != api.OK || at != utf8.RuneCountInString(s) || !slices.Equal(l, want) {
			t.Errorf("Lex(%q): %v, %d, %v", s, l, at, e)
		}
	}
}

// Promise 7.1: what is no token, and where. Beside an error there are no tokens.
func TestLexForm(t *testing.T) {
	for s, want := range map[string]int{
		"\xff":                                0,
		"a b \xff":                            0,
		"; \xff":                              0,
		"a = \"\xc3\"":                        0,
		"\xed\xa0\x80":                        0,
		";":                                   0,
		"a ; b":                               2,
		"é ! b":                               2,
		"!":                                   0,
		"a=!":                                 2,
		"! =":                                 0,
		"a.b":                                 1,
		".":                                   0,
		"\"a":                                 0,
		"a \"é":                               2,
		"\"a\n\"":                             0,
		`"\a"`:                                0,
		"'":                                   0,
		"3a":                                  0,
		"3_":                                  0,
		"3-":                                  0,
		"3-3":                                 0,
		"b 3é":                                2,
		"007":                                 0,
		"00":                                  0,
		"-0":                                  0,
		"--5":                                 0,
		"-":                                   0,
		"- 5":                                 0,
		"+5":                                  0,
		"éé -a":                               3,
		`"a"b`:                                0,
		`"a"5`:                                0,
		`"a"_`:                                0,
		`a "a"-`:                              2,
		"x'0'":                                1,
		"x'00":                                1,
		"x'0G'":                               1,
		"x'AB'":                               1,
		"x'00'a":                              1,
		"x'00'0":                              1,
		"X'00'":                               1,
		"ax'00'":                              2,
		"true'":                               4,
		"a\x00":                               1,
		"a\x0b":                               1,
		"a\u00a0b":                            1,
		"a \u2028":                            2,
		"a\u00d7":                             1,
		"a\u0301":                             1,
		"\ufeffa":                             0,
		"a = 5 [":                             6,
		"a.b = 5 ;":                           1,
		"; 12345678901234567":                 0,
		as("( ", 300) + ";":                   600,
		as("( ", 301) + ";":                   602,
		as("é ", 400) + "! 12345678901234567": 800,
	} {
		if l, at, e := Lex(s); e != api.ErrForm || at != want || l != nil {
			t.Errorf("Lex(%q): %v, %d, %v", s, l, at, e)
		}
	}
}

// Promise 7.1: too many tokens, and literals that are too long.
func TestLexLong(t *testing.T) {
	for s, want := range map[string]int{
		"a = 12345678901234567":                           4,
		"9007199254740992":                                0,
		"-9007199254740992":                               0,
		"é -10000000000000000":                            2,
		"12345678901234567a":                              0,
		"12345678901234567 ; 12345678901234567":           0,
		`ü "` + as("a", 201) + `"`:                        2,
		`"` + as("é", 101) + `"`:                          0,
		"b x'" + as("00", 201) + "'":                      2,
		"x'" + as("00", 201) + "'x":                       0,
		as("( ", 301):                                     600,
		as("é\n", 301):                                    600,
		as("=", 302):                                      300,
		as("5 ", 1000):                                    600,
		as(" <= ", 301):                                   1201,
		as("é ", 300) + "12345678901234567":               600,
		as("é ", 301) + "12345678901234567":               600,
		as("é ", 400) + "12345678901234567 ;":             600,
		as("é ", 299) + "12345678901234567" + as(" a", 9): 598,
	} {
		if l, at, e := Lex(s); e != api.ErrLong || at != want || l != nil {
			t.Errorf("Lex(%q): %v, %d, %v", s, l, at, e)
		}
	}
	for _, s := range []string{as("( ", 300), as("=", 300) + "\n", as("true ", 300)} {
		if l, at, e := Lex(s); e != api.OK || at != len(s) || len(l) != api.MaxTokens {
			t.Errorf("Lex(%q): %d tokens, %d, %v", s, len(l), at, e)
		}
	}
}

// Promise 7.1, R3: what is answered is new each time.
func TestLexIsNew(t *testing.T) {
	l, _, _ := Lex("a = 5")
	clear(l)
	if again, _, e := Lex("a = 5"); e != api.OK || Show(again) != "a = 5" {
		t.Errorf("Lex again: %v, %v", again, e)
	}
}

// Promise 7.2: Place.
func TestPlace(t *testing.T) {
	const s = "aé\nb\r\n\n\tü"
	for at, want := range [][2]int{{1, 1}, {1, 2}, {1, 3}, {2, 1}, {2, 2}, {2, 3}, {3, 1}, {4, 1}, {4, 2}, {4, 3}, {4, 3}, {4, 3}} {
		if line, col := Place(s, at); line != want[0] || col != want[1] {
			t.Errorf("Place of %d: %d, %d", at, line, col)
		}
	}
	for _, c := range []struct {
		s             string
		at, line, col int
	}{
		{"", 0, 1, 1},
		{"", 7, 1, 1},
		{"", -7, 1, 1},
		{"a", -1, 1, 1},
		{"a", math.MinInt, 1, 1},
		{"a", math.MaxInt, 1, 2},
		{"\n", 0, 1, 1},
		{"\n", 1, 2, 1},
		{"\n", 2, 2, 1},
		{"a\n\nb", 99, 3, 2},
		{"a\rb\u2028c\u0085d", 6, 1, 7},
		{"\xff", 0, 0, 0},
		{"a\n\xff", 1, 0, 0},
		{"a\n\xff", -1, 0, 0},
	} {
		if line, col := Place(c.s, c.at); line != c.line || col != c.col {
			t.Errorf("Place(%q, %d): %d, %d", c.s, c.at, line, col)
		}
	}
}

// Promise 7.2: Show, of tokens that no text has, too.
func TestShow(t *testing.T) {
	for want, l := range map[string][]api.Token{
		"":                        nil,
		"a":                       {word(7, "a")},
		`a >= -5 { "x" , x'00' }`: {word(9, "a"), mark(8, ">="), lit(-1, "-5"), mark(0, "{"), lit(0, `"x"`), mark(0, ","), lit(0, "x'00'"), mark(0, "}")},
		"É 5 true ;":              {word(0, "É"), lit(0, "5"), lit(0, "true"), mark(0, ";")},
		"a  b":                    {word(0, "a"), {Kind: api.TokValue, V: api.Value{Kind: api.KindBool, N: 2}}, word(0, "b")},
		" ":                       {{}, {Kind: 4, S: "a", V: api.Value{Kind: api.KindInt}}},
		"b":                       {{Kind: api.TokWord, S: "b", V: api.Value{Kind: api.KindInt, N: 5}}},
		"7":                       {{Kind: api.TokValue, S: "b", V: api.Value{Kind: api.KindInt, N: 7}}},
	} {
		if s := Show(l); s != want {
			t.Errorf("Show of %v: %q", l, s)
		}
	}
}

// Promise 7.2: Word, Mark.
func TestWordAndMark(t *testing.T) {
	for _, c := range []struct {
		t          api.Token
		s          string
		word, mark bool
	}{
		{word(3, "and"), "and", true, false},
		{word(3, "And"), "aND", true, false},
		{word(0, "ÉΩД"), "éωд", true, false},
		{word(0, "and"), "an", false, false},
		{word(0, "an"), "and", false, false},
		{word(0, "and"), "", false, false},
		{mark(0, "<="), "<=", false, true},
		{mark(0, "<="), "<", false, false},
		{mark(0, "<"), "<=", false, false},
		{mark(0, "a"), "A", false, false},
		{lit(0, "true"), "true", false, false},
		{lit(0, `"and"`), "and", false, false},
		{lit(0, "5"), "", false, false},
		{api.Token{Kind: api.TokValue, S: "and"}, "and", false, false},
		{api.Token{Kind: 4, S: "="}, "=", false, false},
		{api.Token{}, "", false, false},
		{word(0, "a"), "\xff", false, false},
	} {
		if Word(c.t, c.s) != c.word || Mark(c.t, c.s) != c.mark {
			t.Errorf("%v, %q: %v, %v", c.t, c.s, Word(c.t, c.s), Mark(c.t, c.s))
		}
	}
}

// held tells what is wrong with what Lex answers of a text, by the words of the document alone; empty, if nothing is.
func held(s string) string {
	l, at, e := Lex(s)
	switch {
	case e != api.OK && l != nil:
		return "tokens beside an error"
	case !utf8.ValidString(s):
		if at != 0 || e != api.ErrForm {
			return "not UTF-8"
		}
		return ""
	case at < 0 || at > utf8.RuneCountInString(s):
		return "a place outside"
	case e == api.OK && (at != utf8.RuneCountInString(s) || len(l) > api.MaxTokens):
		return "its runes, or too many"
	case e == api.ErrLong || e == api.ErrForm:
		return heldError(s, at, e)
	case e != api.OK:
		return "another error"
	}
	return heldTokens(s, l)
}

// heldError: what stands ahead of a fault is cut without one, and behind it nothing mends it.
func heldError(s string, at int, e api.Errno) string {
	ahead, behind := string([]rune(s)[:at]), string([]rune(s)[at:])
	// Ahead of what is no token there may be too many tokens.
	if _, _, bad := Lex(ahead); bad == api.ErrForm || bad != api.OK && e == api.ErrLong {
		return "a fault ahead of the fault"
	}
	if strings.TrimLeft(behind, " \t\n\r") != behind {
		return "a fault at a blank"
	}
	if _, first, bad := Lex(behind); e == api.ErrForm && (bad != e || first != 0) {
		return "no fault there"
	}
	return ""
}

// heldTokens (promise 7.3): places rise, each token stands where it says, and what is shown is cut into the same.
func heldTokens(s string, l []api.Token) string {
	runes, end := []rune(s), 0
	for _, t := range l {
		text := Show([]api.Token{t})
		if t.At < end || strings.Trim(string(runes[end:t.At]), " \t\n\r") != "" || !strings.HasPrefix(string(runes[t.At:]), text) {
			return "a token that is not there"
		}
		if t.Kind == api.TokWord && (strings.Contains(text, ".") || name.Check(text) == api.ErrForm) {
			return "a word that is none"
		}
		end = t.At + utf8.RuneCountInString(text)
	}
	if strings.Trim(string(runes[end:]), " \t\n\r") != "" {
		return "something behind"
	}
	again, _, e := Lex(Show(l))
	for i := range l {
		l[i].At = 0
	}
	for i := range again {
		again[i].At = 0
	}
	if e != api.OK || !slices.Equal(l, again) {
		return "what is shown is cut otherwise"
	}
	return ""
}

// Promise 7.3, of texts made by chance.
func TestLexFollows(t *testing.T) {
	draw := rand.New(rand.NewSource(7))
	pieces := []string{" ", "\t", "\n", "\r", "a", "é", "Z_-9", "and", "in", "true", "false", "5", "-5", "0", "-", `"`, `"a b"`, `\`, "x", "x'", "'", "x'00'", "=", "!", "!=", "<", "<=", ">", ">=", "{", "}", "(", ")", ",", ".", ";", "\xff", "12345678901234567"}
	fine := 0
	for range 20000 {
		var s strings.Builder
		for range draw.Intn(8) {
			s.WriteString(pieces[draw.Intn(len(pieces)-draw.Intn(6))])
			s.WriteString(as(" ", draw.Intn(2)))
		}
		if bad := held(s.String()); bad != "" {
			t.Fatalf("%q: %s", s.String(), bad)
		}
		if _, _, e := Lex(s.String()); e == api.OK {
			fine++
		}
	}
	if fine < 1000 {
		t.Errorf("only %d texts were cut", fine)
	}
}

func FuzzLex(f *testing.F) {
	for s := range tokens {
		f.Add(s)
	}
	f.Add("a \xff")
	f.Add(as("( ", 301))
	f.Fuzz(func(t *testing.T, s string) {
		if bad := held(s); bad != "" {
			t.Errorf("%q: %s", s, bad)
		}
		line, col := Place(s, len(s))
		if valid := utf8.ValidString(s); valid != (line > 0) || valid != (col > 0) || valid && line != 1+strings.Count(s, "\n") {
			t.Errorf("Place of the end of %q: %d, %d", s, line, col)
		}
	})
}
