// Package name is layer 2: names, their letters and keys (see shared/doc/02-name.md).
package name

import (
	"cmp"
	"strings"
	"unicode/utf8"

	"caduceus/api"
)

// What FNV-1a of 64 bits begins with, and multiplies by.
const (
	hashBasis uint64 = 14695981039346656037
	hashPrime uint64 = 1099511628211
)

// smallStep is how much higher a small letter stands than its capital, in every alphabet that has both here.
const smallStep rune = 32

// Letter tells whether a rune is a letter.
func Letter(c rune) bool {
	switch {
	case c == 0xD7, c == 0xF7, c == 0x3A2:
		return false
	case within(c, 'A', 'Z'), within(c, 'a', 'z'):
		return true
	case within(c, 0xC0, 0x24F):
		return true
	case within(c, 0x391, 0x3A9), within(c, 0x3B1, 0x3C9):
		return true
	case within(c, 0x410, 0x44F):
		return true
	}
	return within(c, 0x4E00, 0x9FFF)
}

func within(c, lo, hi rune) bool {
	return c >= lo && c <= hi
}

// Small is a rune's small letter.
func Small(c rune) rune {
	switch {
	case c == 0xD7, c == 0x3A2:
		return c
	case within(c, 'A', 'Z'), within(c, 0xC0, 0xDE), within(c, 0x391, 0x3A9), within(c, 0x410, 0x42F):
		return c + smallStep
	}
	return c
}

// Check tells whether a text is a name.
func Check(s string) api.Errno {
	parts, runes := 1, 0
	first := true
	// Bytes that are not UTF-8 come as U+FFFD, which no part has.
	for _, c := range s {
		switch {
		case begins(c):
			first = false
		case first:
			return api.ErrForm
		case c == '.':
			parts++
			first = true
		case c != '-' && !within(c, '0', '9'):
			return api.ErrForm
		}
		runes++
	}
	if first {
		return api.ErrForm
	}
	if parts > api.MaxParts || runes > api.MaxName {
		return api.ErrLong
	}
	return api.OK
}

func begins(c rune) bool {
	return c == '_' || Letter(c)
}

// Fold is a text with small letters; what is not UTF-8 stays as it is.
func Fold(s string) string {
	if !utf8.ValidString(s) {
		return s
	}
	return string(smalls(s))
}

func smalls(s string) []rune {
	out := make([]rune, 0, len(s))
	for _, c := range s {
		out = append(out, Small(c))
	}
	return out
}

// Same tells whether two texts are the same, folded.
func Same(a, b string) bool {
	return a == b || Compare(a, b) == 0
}

// Compare tells how two texts stand, folded: -1, 0 or 1.
func Compare(a, b string) int {
	if utf8.ValidString(a) && utf8.ValidString(b) {
		return compareRunes(a, b)
	}
	return strings.Compare(Fold(a), Fold(b))
}

// compareRunes folds on the way: names are held against each other too often to write both anew each time.
func compareRunes(a, b string) int {
	for _, c := range a {
		if b == "" {
			return 1
		}
		other, size := utf8.DecodeRuneInString(b)
		if order := cmp.Compare(Small(c), Small(other)); order != 0 {
			return order
		}
		b = b[size:]
	}
	return -min(len(b), 1)
}

// Parts are a name's parts; none of what is no name.
func Parts(s string) []string {
	if Check(s) != api.OK {
		return nil
	}
	return strings.Split(s, ".")
}

// Under tells whether both are names, and the parts of the first one begin with all of the other's.
func Under(s, of string) bool {
	if Check(s) != api.OK || Check(of) != api.OK {
		return false
	}
	// With a point behind both, no part is taken for the beginning of a longer one.
	return strings.HasPrefix(Fold(s)+".", Fold(of)+".")
}

// Hash is FNV-1a of 64 bits of a text's bytes.
func Hash(s string) uint64 {
	h := hashBasis
	for i := range len(s) {
		h ^= uint64(s[i])
		h *= hashPrime
	}
	return h
}

// Key is where a name stands on a ring.
func Key(s string) uint64 {
	return Hash(Fold(s))
}

// Runes is how many runes a text has; -1, if it is not UTF-8.
func Runes(s string) int {
	if !utf8.ValidString(s) {
		return -1
	}
	return utf8.RuneCountInString(s)
}
