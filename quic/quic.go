// Package quic is layer 1: rows of numbers and texts as bytes (see shared/doc/01-quic.md).
package quic

import (
	"math/bits"
	"strings"

	"caduceus/api"
)

// Size is how many bytes a number has; 0, if it is none.
func Size(n int) int {
	if n < 0 || n > api.MaxNum {
		return 0
	}
	size := 1
	// Each bound that a number reaches doubles its bytes, and it has reached all lower ones, too.
	switch {
	case n >= 1<<30:
		size *= 2
		fallthrough
	case n >= 1<<14:
		size *= 2
		fallthrough
	case n >= 1<<6:
		size *= 2
	}
	return size
}

// Num is a number's bytes; none, if it is none.
func Num(n int) string {
	size := Size(n)
	if size == 0 {
		return ""
	}
	out := make([]byte, size)
	for i := size - 1; i >= 0; i-- {
		out[i] = byte(n)
		n >>= 8
	}
	out[0] |= byte(bits.TrailingZeros(uint(size)) << 6)
	return string(out)
}

// Whole is a whole number's bytes; none, if it is none.
func Whole(z int) string {
	if !isWhole(z) {
		return ""
	}
	if z < 0 {
		return Num(-2*z - 1)
	}
	return Num(2 * z)
}

func isWhole(z int) bool {
	return z >= -api.MaxWhole-1 && z <= api.MaxWhole
}

// wholeOf undoes what Whole does to a number ahead of writing it.
func wholeOf(n int) int {
	if n%2 == 0 {
		return n / 2
	}
	return -(n / 2) - 1
}

// Get is the number at the front of bytes, and what stands behind it.
func Get(s string) (n int, rest string, e api.Errno) {
	if s == "" {
		return 0, "", api.ErrShort
	}
	size := 1 << (s[0] >> 6)
	if len(s) < size {
		return 0, "", api.ErrShort
	}
	n = int(s[0] & 0x3f)
	for i := 1; i < size; i++ {
		n = n<<8 | int(s[i])
	}
	if Size(n) != size {
		return 0, "", api.ErrForm
	}
	return n, s[size:], api.OK
}

// Put is a row's bytes.
func Put(l []api.Item) (string, api.Errno) {
	if len(l) > api.MaxItems {
		return "", api.ErrLong
	}
	// All are looked at first, so that a wrong one costs no writing.
	for _, x := range l {
		if !mayBe(x) {
			return "", api.ErrArg
		}
	}
	var out strings.Builder
	for _, x := range l {
		putItem(&out, x)
	}
	return out.String(), api.OK
}

func isKind(kind int) bool {
	return kind >= api.ItemNum && kind <= api.ItemText
}

func mayBe(x api.Item) bool {
	switch x.Kind {
	case api.ItemNum:
		return x.S == "" && Size(x.N) > 0
	case api.ItemWhole:
		return x.S == "" && isWhole(x.N)
	case api.ItemFlag:
		return x.S == "" && (x.N == 0 || x.N == 1)
	case api.ItemText:
		return x.N == 0 && len(x.S) <= api.MaxText
	}
	return false
}

func putItem(out *strings.Builder, x api.Item) {
	switch x.Kind {
	case api.ItemNum:
		out.WriteString(Num(x.N))
	case api.ItemWhole:
		out.WriteString(Whole(x.N))
	case api.ItemFlag:
		out.WriteByte(byte(x.N))
	case api.ItemText:
		putText(out, x.S)
	}
}

func putText(out *strings.Builder, s string) {
	out.WriteString(Num(len(s)))
	out.WriteString(s)
}

// Take is the items of kinds at the front of bytes, and what stands behind them.
func Take(s string, kinds []int) (l []api.Item, rest string, e api.Errno) {
	if len(kinds) > api.MaxItems {
		return nil, "", api.ErrLong
	}
	for _, kind := range kinds {
		if !isKind(kind) {
			return nil, "", api.ErrArg
		}
	}
	for _, kind := range kinds {
		var x api.Item
		x, s, e = takeItem(s, kind)
		if e != api.OK {
			return nil, "", e
		}
		l = append(l, x)
	}
	return l, s, api.OK
}

func takeItem(s string, kind int) (x api.Item, rest string, e api.Errno) {
	x.Kind = kind
	switch kind {
	case api.ItemNum:
		x.N, rest, e = Get(s)
	case api.ItemWhole:
		x.N, rest, e = Get(s)
		x.N = wholeOf(x.N)
	case api.ItemFlag:
		x.N, rest, e = takeFlag(s)
	case api.ItemText:
		x.S, rest, e = takeText(s)
	}
	return x, rest, e
}

func takeFlag(s string) (n int, rest string, e api.Errno) {
	if s == "" {
		return 0, "", api.ErrShort
	}
	if s[0] > 1 {
		return 0, "", api.ErrForm
	}
	return int(s[0]), s[1:], api.OK
}

func takeText(s string) (text, rest string, e api.Errno) {
	n, s, e := Get(s)
	if e != api.OK {
		return "", "", e
	}
	if n > api.MaxText {
		return "", "", api.ErrLong
	}
	if n > len(s) {
		return "", "", api.ErrShort
	}
	return s[:n], s[n:], api.OK
}

// Row is the items of kinds that are all there is.
func Row(s string, kinds []int) ([]api.Item, api.Errno) {
	l, rest, e := Take(s, kinds)
	if e != api.OK {
		return nil, e
	}
	if rest != "" {
		return nil, api.ErrLong
	}
	return l, api.OK
}

// List is the bytes of a list of texts.
func List(l []string) (string, api.Errno) {
	if len(l) > api.MaxItems {
		return "", api.ErrLong
	}
	for _, text := range l {
		if len(text) > api.MaxText {
			return "", api.ErrLong
		}
	}
	var out strings.Builder
	out.WriteString(Num(len(l)))
	for _, text := range l {
		putText(&out, text)
	}
	return out.String(), api.OK
}

// Unlist is the texts of the list at the front of bytes, and what stands behind it.
func Unlist(s string) (l []string, rest string, e api.Errno) {
	n, s, e := Get(s)
	if e != api.OK {
		return nil, "", e
	}
	if n > api.MaxItems {
		return nil, "", api.ErrLong
	}
	for range n {
		var text string
		text, s, e = takeText(s)
		if e != api.OK {
			return nil, "", e
		}
		l = append(l, text)
	}
	return l, s, api.OK
}
