package filter

import (
	"slices"

	"caduceus/api"
	"caduceus/lex"
	"caduceus/name"
	"caduceus/value"
)

// piece is what a reader hands out: a word, a mark, a literal, or the end of the text.
type piece interface {
	place() int
}

// spot is the place of a piece.
type spot int

func (s spot) place() int {
	return int(s)
}

type word struct {
	spot
	text string
}

type mark struct {
	spot
	text string
}

type literal struct {
	spot
	v api.Value
}

type end struct {
	spot
}

// reader hands out the pieces of a text, one behind the other.
type reader struct {
	l    []api.Token
	size int // how many runes the text has
}

// next is the next piece; at the end of the text it is that, however often it is asked.
func (r *reader) next() piece {
	if len(r.l) == 0 {
		return end{spot(r.size)}
	}
	t := r.l[0]
	r.l = r.l[1:]
	switch t.Kind {
	case api.TokWord:
		return word{spot(t.At), t.S}
	case api.TokMark:
		return mark{spot(t.At), t.S}
	}
	return literal{spot(t.At), t.V}
}

// fault is what is wrong, and where; of api.OK nothing is.
type fault struct {
	at int
	e  api.Errno
}

func wrong(p piece, e api.Errno) fault {
	return fault{p.place(), e}
}

func isWord(p piece, s string) bool {
	x, is := p.(word)
	return is && name.Same(x.text, s)
}

func isMark(p piece, s string) bool {
	x, is := p.(mark)
	return is && x.text == s
}

// Parse is the filter that a text says, and how many runes that has; or what is wrong with it, and where.
func Parse(s string) (f []api.Pred, at int, e api.Errno) {
	l, at, e := lex.Lex(s)
	if e != api.OK {
		return nil, at, e
	}
	r := &reader{l, at}
	f, bad := r.filter()
	if bad.e != api.OK {
		return nil, bad.at, bad.e
	}
	return f, at, api.OK
}

func (r *reader) filter() (f []api.Pred, bad fault) {
	p := r.next()
	if isWord(p, wordAny) {
		return nil, ended(r.next())
	}
	for {
		x, bad := r.pred(p, len(f) == api.MaxPreds)
		if bad.e != api.OK {
			return nil, bad
		}
		f = append(f, x)
		p = r.next()
		if !isWord(p, wordAnd) {
			return f, ended(p)
		}
		p = r.next()
	}
}

// ended is what is wrong where the text must end.
func ended(p piece) fault {
	if _, is := p.(end); is {
		return fault{}
	}
	return wrong(p, api.ErrForm)
}

// pred reads the predicate that begins with a piece; if there is no room for it, its name is one too many.
func (r *reader) pred(p piece, full bool) (x api.Pred, bad fault) {
	has := isWord(p, wordHas)
	if has {
		p = r.next()
	}
	x.Name, bad = asked(p)
	if bad.e == api.OK && full {
		bad = wrong(p, api.ErrLong)
	}
	if bad.e != api.OK {
		return x, bad
	}
	if has {
		x.Op = api.OpHas
		return x, bad
	}
	x.Op, x.L, bad = r.behindName()
	return x, bad
}

// asked is the name that a piece is. The words true and false are cut as values, but a filter's text has them as names, too.
func asked(p piece) (string, fault) {
	switch x := p.(type) {
	case word:
		if ownWord(x.text) {
			break
		}
		return x.text, fault{x.place(), name.Check(x.text)}
	case literal:
		if x.v.Kind == api.KindBool {
			return value.Show(x.v), fault{}
		}
	}
	return "", wrong(p, api.ErrForm)
}

// behindName reads how an attribute is asked, and the values.
func (r *reader) behindName() (op int, l []api.Value, bad fault) {
	p := r.next()
	switch x := p.(type) {
	case word:
		if name.Same(x.text, wordIn) {
			l, bad = r.set()
			return api.OpIn, l, bad
		}
		op = opOf(name.Fold(x.text))
	case mark:
		op = opOf(x.text)
	}
	if op == 0 {
		return 0, nil, wrong(p, api.ErrForm)
	}
	l, bad = r.one(op)
	return op, l, bad
}

// opOf is how the word or mark between a name and its value asks; 0, if it is none.
func opOf(s string) int {
	for op := api.OpEq; op <= api.OpPre; op++ {
		if opWord(op) == s {
			return op
		}
	}
	return 0
}

// one reads the one value that is asked so.
func (r *reader) one(op int) ([]api.Value, fault) {
	p := r.next()
	x, is := p.(literal)
	switch {
	case !is:
		return nil, wrong(p, api.ErrForm)
	case !takes(op, x.v.Kind):
		return nil, wrong(p, api.ErrKind)
	}
	return []api.Value{x.v}, fault{}
}

// set reads the values of OpIn, with the marks around and between them.
func (r *reader) set() (l []api.Value, bad fault) {
	if p := r.next(); !isMark(p, "{") {
		return nil, wrong(p, api.ErrForm)
	}
	for {
		v, bad := r.another(l)
		if bad.e != api.OK {
			return nil, bad
		}
		l = append(l, v)
		p := r.next()
		if isMark(p, "}") {
			slices.SortFunc(l, value.Compare)
			return l, fault{}
		}
		if !isMark(p, ",") {
			return nil, wrong(p, api.ErrForm)
		}
	}
}

// another reads a value of OpIn behind others.
func (r *reader) another(l []api.Value) (api.Value, fault) {
	p := r.next()
	x, is := p.(literal)
	switch {
	case !is:
		return api.Value{}, wrong(p, api.ErrForm)
	case len(l) > 0 && x.v.Kind != l[0].Kind:
		return api.Value{}, wrong(p, api.ErrKind)
	case slices.Contains(l, x.v):
		return api.Value{}, wrong(p, api.ErrClash)
	case len(l) == api.MaxIn:
		return api.Value{}, wrong(p, api.ErrLong)
	}
	return x.v, fault{}
}
