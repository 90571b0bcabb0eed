package tests

import (
	"math"
	"strings"
	"testing"

	"loop.example/g00779/impl"
)

// codes is the table of chapter 1.
var codes = []struct {
	number, constant int
	word             string
}{
	{0, impl.OK, "ok"},
	{1, impl.ErrBad, "bad"},
	{2, impl.ErrLong, "long"},
	{3, impl.ErrForm, "form"},
	{4, impl.ErrRange, "range"},
	{5, impl.ErrNone, "none"},
	{6, impl.ErrMany, "many"},
	{7, impl.ErrFull, "full"},
	{8, impl.ErrSize, "size"},
	{9, impl.ErrKind, "kind"},
	{10, impl.ErrName, "name"},
	{11, impl.ErrScheme, "scheme"},
	{12, impl.ErrDeep, "deep"},
	{13, impl.ErrAgain, "again"},
	{14, impl.ErrLater, "later"},
	{15, impl.ErrGone, "gone"},
	{16, impl.ErrOrder, "order"},
	{17, impl.ErrState, "state"},
	{18, impl.ErrSame, "same"},
}

func TestConstants(t *testing.T) {
	if impl.MaxText != 65536 || impl.MaxList != 4096 || impl.MaxName != 12 {
		t.Error("a constant of chapter 1 is wrong")
	}
	if impl.MaxUrl != 100 || impl.MaxPort != 65535 {
		t.Error("a constant of chapter 2 is wrong")
	}
}

func TestCodesAndWords(t *testing.T) {
	for _, c := range codes {
		if c.number != c.constant {
			t.Errorf("the constant of %q is %d, not %d", c.word, c.constant, c.number)
		}
		if w := impl.CodeWord(c.number); w != c.word {
			t.Errorf("CodeWord(%d) = %q, not %q", c.number, w, c.word)
		}
		if n := impl.CodeOf(c.word); n != c.number {
			t.Errorf("CodeOf(%q) = %d, not %d", c.word, n, c.number)
		}
	}
}

func TestNoSuchCode(t *testing.T) {
	for _, n := range []int{-1, 19, 20, 256, -256, 1 << 32, math.MaxInt, math.MinInt} {
		if w := impl.CodeWord(n); w != "" {
			t.Errorf("CodeWord(%d) = %q", n, w)
		}
	}
}

func TestNoSuchWord(t *testing.T) {
	words := []string{"", " ", "x", "OK", "Ok", " ok", "ok ", "okk", "o", "0", "18", "error", "ok\x00", "\x80"}
	for _, n := range []int{impl.MaxText, impl.MaxText + 1, 1 << 20} {
		words = append(words, strings.Repeat("a", n), "ok"+strings.Repeat(" ", n-2), strings.Repeat("ok", n/2))
	}
	for _, w := range words {
		if n := impl.CodeOf(w); n != -1 {
			t.Errorf("CodeOf of %d bytes %.20q = %d", len(w), w, n)
		}
	}
}

func TestNames(t *testing.T) {
	for _, name := range []string{"a", "Z", "_", "default", "uri", "a9", "_9", "__", "aZ_09", "abcdefghijkl", "A23456789012"} {
		if !impl.NameOK(name) {
			t.Errorf("%q is a name", name)
		}
	}
	for _, name := range []string{"", "9", "9a", "a b", " a", "a ", "a-b", "a.b", "a\x00", "é", "aé", "\u212a", "a\u0660", "a\x80", "abcdefghijklm"} {
		if impl.NameOK(name) {
			t.Errorf("%q is not a name", name)
		}
	}
}

func TestNameLengths(t *testing.T) {
	for _, n := range []int{0, 1, 2, 11, 12, 13, 14, 100, impl.MaxText, impl.MaxText + 1} {
		if impl.NameOK(strings.Repeat("a", n)) != (n >= 1 && n <= 12) {
			t.Errorf("a name of %d bytes", n)
		}
	}
	// Six letters of two bytes each are 12 bytes, but no name.
	if impl.NameOK(strings.Repeat("é", 6)) {
		t.Error("a name of letters beyond ASCII")
	}
}

func TestNameBytes(t *testing.T) {
	const letters = "abcdefghijklmnopqrstuvwxyzABCDEFGHIJKLMNOPQRSTUVWXYZ_"
	const digits = "0123456789"
	for b := 0; b < 256; b++ {
		c := string([]byte{byte(b)})
		letter := strings.Contains(letters, c)
		if impl.NameOK(c) != letter || impl.NameOK(c+"a") != letter {
			t.Errorf("the byte %d at the beginning of a name", b)
		}
		inside := letter || strings.Contains(digits, c)
		if impl.NameOK("a"+c) != inside || impl.NameOK("a"+c+"a") != inside {
			t.Errorf("the byte %d inside a name", b)
		}
	}
}
