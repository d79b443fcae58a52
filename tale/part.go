package tale

import (
	"strconv"
	"strings"

	"caduceus/api"
	"caduceus/event"
	"caduceus/filter"
	"caduceus/name"
	"caduceus/schema"
	"caduceus/value"
)

// none stands where there is no parent, or no attribute.
const none = "-"

// maxDigits is how many digits a number has at most.
const maxDigits = 18

// The words of forms that stand for parts of a deed.
const (
	wordNode    = "NODE"
	wordTo      = "TO"
	wordPlace   = "I"
	wordSession = "SESSION"
	wordCount   = "N"
	wordName    = "NAME"
	wordParent  = "PARENT"
	wordSchema  = "SCHEMA"
	wordFilter  = "FILTER"
	wordAttrs   = "ATTRS"
)

// numberOf is that number of a deed for which a word stands; nil, if it stands for none.
func numberOf(d *api.Deed, word string) *int {
	switch word {
	case wordNode:
		return &d.Node
	case wordTo:
		return &d.To
	case wordPlace:
		return &d.I
	case wordSession:
		return &d.C.Session
	case wordCount:
		return &d.C.N
	}
	return nil
}

// showPart is what stands in a deed's line for a word of its form.
func showPart(d *api.Deed, word string) string {
	if n := numberOf(d, word); n != nil {
		return strconv.Itoa(*n)
	}
	switch word {
	case wordName:
		return d.C.Name
	case wordParent:
		return showParent(d.C.Parent)
	case wordSchema:
		return schema.Show(d.C.Own)
	case wordFilter:
		return filter.Show(d.C.F)
	case wordAttrs:
		return Attrs(d.C.Attrs)
	}
	return word
}

func showParent(s string) string {
	if s == "" {
		return none
	}
	return s
}

// readPart reads what stands in a deed's line for a word of its form, and tells whether it may stand there.
func readPart(d *api.Deed, word, text string) bool {
	e := api.OK
	if n := numberOf(d, word); n != nil {
		*n, e = readNumber(text)
		return e == api.OK
	}
	switch word {
	case wordName:
		d.C.Name, e = text, name.Check(text)
	case wordParent:
		d.C.Parent, e = readParent(text)
	case wordSchema:
		d.C.Own, e = schema.Parse(text)
	case wordFilter:
		d.C.F, e = readFilter(text)
	case wordAttrs:
		d.C.Attrs, e = ReadAttrs(text)
	default:
		return text == word
	}
	return e == api.OK
}

// readNumber is the number that a text is.
func readNumber(s string) (int, api.Errno) {
	n, err := strconv.Atoi(s)
	// Held against how it must stand: zeros ahead and other signs are refused.
	if err != nil || strconv.Itoa(n) != s || len(strings.TrimPrefix(s, "-")) > maxDigits {
		return 0, api.ErrForm
	}
	return n, api.OK
}

func readParent(s string) (string, api.Errno) {
	if s == none {
		return "", api.OK
	}
	return s, name.Check(s)
}

// readFilter is the filter whose text this just is. It is read predicate by predicate, as a filter may have more tokens than a text that is read at once.
func readFilter(s string) (f []api.Pred, e api.Errno) {
	for _, text := range cutFilter(s) {
		p, _, e := filter.Parse(text)
		if e != api.OK {
			return nil, api.ErrForm
		}
		f = append(f, p...)
	}
	if filter.Show(f) != s {
		return nil, api.ErrForm
	}
	return f, api.OK
}

// cutFilter is the texts of a filter's predicates.
func cutFilter(s string) (l []string) {
	const between = " and "
	from, quoted := 0, false
	for i := 0; i < len(s); i++ {
		switch {
		case quoted && s[i] == '\\':
			// A quote behind it does not end the literal.
			i++
		case s[i] == '"':
			quoted = !quoted
		case !quoted && strings.HasPrefix(s[i:], between):
			l = append(l, s[from:i])
			from = i + len(between)
			i = from - 1
		}
	}
	return append(l, s[from:])
}

// Attrs are attributes as words.
func Attrs(l []api.Attr) string {
	if !schema.Attrs(l) {
		return ""
	}
	if len(l) == 0 {
		return none
	}
	var words []string
	for _, x := range l {
		words = append(words, x.Name+"="+value.Show(x.V))
	}
	return join(words...)
}

// ReadAttrs are the attributes of words.
func ReadAttrs(s string) ([]api.Attr, api.Errno) {
	if s == none {
		return nil, api.OK
	}
	// An event's line has them just so, behind its type.
	x, e := event.Parse(join("1.1.1", "a", s))
	return x.Attrs, e
}
