package impl

import "testing"

// No function of chapters 1 and 2 reads a negative integer, so what readInt
// makes of one is tested here.
func TestTextsOfIntegers(t *testing.T) {
	for _, v := range []struct {
		text string
		n    int
	}{
		{"0", 0}, {"1", 1}, {"9", 9}, {"10", 10}, {"-1", -1}, {"-10", -10}, {"1000000", 1000000},
		{"999999999999999999", 999999999999999999}, {"-999999999999999999", -999999999999999999},
		{"100000000000000000", 100000000000000000}, {"-100000000000000000", -100000000000000000},
	} {
		if n, ok := readInt(v.text); n != v.n || !ok {
			t.Errorf("readInt(%q) = %d, %v", v.text, n, ok)
		}
	}
	for _, text := range []string{
		"", "-", "--1", "+1", "-0", "00", "01", "-01", "-00", "1-", " 1", "1 ", "- 1", "1.0", "1e1", "0x1", "1_0", "a", "1a", "a1", "\x80", "1\x80", "\u0661",
		"1000000000000000000", "-1000000000000000000", "0000000000000000001", "9223372036854775808",
	} {
		if n, ok := readInt(text); n != 0 || ok {
			t.Errorf("readInt(%q) = %d, %v", text, n, ok)
		}
	}
}
