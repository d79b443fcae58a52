package tale

import (
	"slices"
	"strings"

	"caduceus/api"
	"caduceus/filter"
)

const blank = " "

// form is how the line of a deed stands: a word in capitals stands for a part of the deed.
type form struct {
	words string
	deed  int
	call  int
	on    bool
}

// forms of all deeds that have a line.
func forms() []form {
	return []form{
		{"call NODE open N", api.DeedCall, api.CallOpen, false},
		{"call NODE close SESSION", api.DeedCall, api.CallClose, false},
		{"call NODE reg SESSION NAME PARENT SCHEMA", api.DeedCall, api.CallReg, false},
		{"call NODE adv SESSION NAME", api.DeedCall, api.CallAdv, false},
		{"call NODE withdraw SESSION NAME", api.DeedCall, api.CallWithdraw, false},
		{"call NODE sub SESSION NAME FILTER", api.DeedCall, api.CallSub, false},
		{"call NODE unsub SESSION N", api.DeedCall, api.CallUnsub, false},
		{"call NODE pub SESSION NAME ATTRS", api.DeedCall, api.CallPub, false},
		{"call NODE poll SESSION N", api.DeedCall, api.CallPoll, false},
		{"call NODE over SESSION N", api.DeedCall, api.CallOver, false},
		{"come NODE TO I", api.DeedCome, 0, false},
		{"lose NODE TO I", api.DeedLose, 0, false},
		{"twice NODE TO I", api.DeedTwice, 0, false},
		{"tick NODE", api.DeedTick, 0, false},
		{"crash NODE", api.DeedCrash, 0, false},
		{"rise NODE", api.DeedRise, 0, false},
		{"learn NODE", api.DeedLearn, 0, false},
		{"apart NODE TO", api.DeedApart, 0, true},
		{"join NODE TO", api.DeedApart, 0, false},
		{"calm", api.DeedCalm, 0, false},
	}
}

// cut is the word at the front of a line, and what stands behind the blank.
func cut(s string) (word, rest string) {
	word, rest, _ = strings.Cut(s, blank)
	return word, rest
}

func join(words ...string) string {
	return strings.Join(words, blank)
}

// Show is a deed's line.
func Show(d api.Deed) (string, api.Errno) {
	for _, f := range forms() {
		s := f.show(d)
		// Another kind, parts that may not be, and such as the line does not name are found by reading it again.
		if back, is := f.read(s); is && same(back, d) {
			return s, api.OK
		}
	}
	return "", api.ErrArg
}

// Read is the deed of a line.
func Read(s string) (api.Deed, api.Errno) {
	for _, f := range forms() {
		if d, is := f.read(s); is {
			return d, api.OK
		}
	}
	return api.Deed{}, api.ErrForm
}

// show is a line of this form, which says a deed if that has no other parts, and these may be.
func (f form) show(d api.Deed) string {
	var words []string
	for _, word := range strings.Split(f.words, blank) {
		words = append(words, showPart(&d, word))
	}
	return join(words...)
}

// read is the deed of a line of this form, and whether it is one.
func (f form) read(s string) (api.Deed, bool) {
	d := api.Deed{Kind: f.deed, On: f.on, C: api.Call{Kind: f.call}}
	word, words := cut(f.words)
	for words != "" {
		var text string
		text, s = cut(s)
		if !readPart(&d, word, text) {
			return api.Deed{}, false
		}
		word, words = cut(words)
	}
	// The last part has all that is left, blanks too.
	if !readPart(&d, word, s) {
		return api.Deed{}, false
	}
	return d, true
}

// same tells whether two deeds are the same in all.
func same(a, b api.Deed) bool {
	return a.Kind == b.Kind && a.Node == b.Node && a.To == b.To && a.I == b.I && a.On == b.On && sameCall(a.C, b.C)
}

func sameCall(a, b api.Call) bool {
	if a.Kind != b.Kind || a.Session != b.Session || a.Name != b.Name || a.Parent != b.Parent || a.N != b.N {
		return false
	}
	return slices.Equal(a.Own, b.Own) && filter.Same(a.F, b.F) && slices.Equal(a.Attrs, b.Attrs)
}
