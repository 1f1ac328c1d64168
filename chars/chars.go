// Package chars: which texts may be.
package chars

import (
	"scholium/api"
)

const (
	lastRune       = 0x10FFFF
	firstSurrogate = 0xD800
	lastSurrogate  = 0xDFFF
	markBytes      = 3
)

// Rune is the rune at b's beginning, and how many bytes it has.
// Where there is none, n still says how far to go on: one byte, unless b is empty.
func Rune(b []byte) (r rune, n int, ok bool) {
	if len(b) == 0 {
		return 0, 0, false
	}
	r, n, least := lead(b[0])
	if n == 0 || n > len(b) {
		return 0, 1, false
	}
	for _, c := range b[1:n] {
		if c&0xC0 != 0x80 {
			return 0, 1, false
		}
		r = r<<6 | rune(c&0x3F)
	}
	// A rune below least has a shorter form, and only the shortest is UTF-8.
	if r < least || r > lastRune || surrogate(r) {
		return 0, 1, false
	}
	return r, n, true
}

// lead is what a rune's first byte says: the rune's upper bits, how many bytes it has (0: none begins so), the least rune that needs so many.
func lead(c byte) (bits rune, n int, least rune) {
	switch {
	case c&0x80 == 0:
		return rune(c), 1, 0
	case c&0xE0 == 0xC0:
		return rune(c & 0x1F), 2, 1 << 7
	case c&0xF0 == 0xE0:
		return rune(c & 0x0F), 3, 1 << 11
	case c&0xF8 == 0xF0:
		return rune(c & 0x07), 4, 1 << 16
	}
	return 0, 0, 0
}

func surrogate(r rune) bool {
	return r >= firstSurrogate && r <= lastSurrogate
}

// Printable tells whether r may stand in a text.
func Printable(r rune) bool {
	switch {
	case r == 9, r == 10, r == 13, r == 133:
		return true
	case r < 32, r >= 127 && r <= 159:
		return false
	case r == 0xFEFF, r == 0xFFFE, r == 0xFFFF:
		return false
	}
	return r <= lastRune && !surrogate(r)
}

// Check tells whether b is a text, and if not, where it ceases to be one.
func Check(b []byte) (at int, e api.Errno) {
	if len(b) > api.MaxBytes {
		return api.MaxBytes, api.ErrLimit
	}
	if marked(b) {
		at = markBytes
	}
	for at < len(b) {
		r, n, ok := Rune(b[at:])
		if !ok || !Printable(r) || r == 13 && !breaks(b[at:]) {
			return at, api.ErrText
		}
		at += n
	}
	return 0, api.OK
}

func marked(b []byte) bool {
	return len(b) >= markBytes && b[0] == 0xEF && b[1] == 0xBB && b[2] == 0xBF
}

// breaks tells whether the 13 at b's beginning is the first half of a line's break.
func breaks(b []byte) bool {
	return len(b) > 1 && b[1] == 10
}

// Space tells whether c is a blank.
func Space(c byte) bool {
	return c == 32
}

// Digit tells whether c is one of the ten digits.
func Digit(c byte) bool {
	return c >= '0' && c <= '9'
}

// Name tells whether s may name an anchor, a tag, a key of a path.
func Name(s string) bool {
	if len(s) == 0 || len(s) > api.MaxName {
		return false
	}
	for i := range len(s) {
		if !nameByte(s[i]) {
			return false
		}
	}
	return true
}

func nameByte(c byte) bool {
	return c >= 'A' && c <= 'Z' || c >= 'a' && c <= 'z' || Digit(c) || c == '-' || c == '_'
}
