package impl

import (
	"slices"
	"strings"
)

const (
	MaxText = 65536
	MaxList = 4096
	MaxName = 12

	OK        = 0
	ErrBad    = 1
	ErrLong   = 2
	ErrForm   = 3
	ErrRange  = 4
	ErrNone   = 5
	ErrMany   = 6
	ErrFull   = 7
	ErrSize   = 8
	ErrKind   = 9
	ErrName   = 10
	ErrScheme = 11
	ErrDeep   = 12
	ErrAgain  = 13
	ErrLater  = 14
	ErrGone   = 15
	ErrOrder  = 16
	ErrState  = 17
	ErrSame   = 18

	// maxDigits is small enough that no text of an integer overflows an int.
	maxDigits = 18
)

// codeWords holds the word of each code at the index of its number.
var codeWords = [...]string{
	"ok", "bad", "long", "form", "range", "none", "many", "full", "size", "kind",
	"name", "scheme", "deep", "again", "later", "gone", "order", "state", "same",
}

func NameOK(t string) bool {
	if t == "" || len(t) > MaxName {
		return false
	}
	for i, c := range t {
		if !startsName(c) && (i == 0 || !isDigit(c)) {
			return false
		}
	}
	return true
}

func startsName(c rune) bool {
	return c == '_' || isLower(c) || 'A' <= c && c <= 'Z'
}

func isLower(c rune) bool { return 'a' <= c && c <= 'z' }

func isDigit(c rune) bool { return '0' <= c && c <= '9' }

func CodeWord(code int) string {
	if code < 0 || code >= len(codeWords) {
		return ""
	}
	return codeWords[code]
}

func CodeOf(word string) int {
	for code, w := range codeWords {
		if w == word {
			return code
		}
	}
	return -1
}

// readInt returns the number whose text of an integer t is, and whether t is
// one at all.
func readInt(t string) (int, bool) {
	digits, negative := strings.CutPrefix(t, "-")
	if digits == "" || len(digits) > maxDigits {
		return 0, false
	}
	if digits[0] == '0' && (len(digits) > 1 || negative) {
		return 0, false
	}
	n := 0
	for _, c := range digits {
		if !isDigit(c) {
			return 0, false
		}
		n = 10*n + int(c-'0')
	}
	if negative {
		n = -n
	}
	return n, true
}

// lowerText changes the letters A to Z only. strings.ToLower knows more
// letters: it would turn the Kelvin sign into a k, and a text that is not
// ASCII into one that is.
func lowerText(t string) string {
	b := []byte(t)
	for i, c := range b {
		if 'A' <= c && c <= 'Z' {
			b[i] = c - 'A' + 'a'
		}
	}
	return string(b)
}

// ownList returns a copy of a list that shares no memory with it; own copies an
// element.
func ownList[T any](list []T, own func(T) T) []T {
	list = slices.Clone(list)
	for i, x := range list {
		list[i] = own(x)
	}
	return list
}
