package tests

import (
	"fmt"
	"math"
	"slices"
	"strings"
	"testing"

	"loop.example/g00779/impl"
)

var null = impl.Json{Kind: impl.JsNull}

func boolean(n int) impl.Json { return impl.Json{Kind: impl.JsBool, Num: n} }

func number(n int) impl.Json { return impl.Json{Kind: impl.JsNumber, Num: n} }

func text(t string) impl.Json { return impl.Json{Kind: impl.JsText, Text: t} }

func list(items ...impl.Json) impl.Json { return impl.Json{Kind: impl.JsList, Items: items} }

// object takes names and values in turn.
func object(members ...any) impl.Json {
	j := impl.Json{Kind: impl.JsObject}
	for i := 0; i < len(members); i += 2 {
		j.Names = append(j.Names, members[i].(string))
		j.Items = append(j.Items, members[i+1].(impl.Json))
	}
	return j
}

// numbered returns an object of n members with different names.
func numbered(n int) impl.Json {
	j := object()
	for i := range n {
		j.Names = append(j.Names, fmt.Sprint("n", i))
		j.Items = append(j.Items, number(i))
	}
	return j
}

func nulls(n int) []impl.Json { return slices.Repeat([]impl.Json{null}, n) }

// joined returns n texts of items with commas between.
func joined(n int, item string) string {
	return strings.TrimSuffix(strings.Repeat(item+",", n), ",")
}

// inside wraps a value into n lists, or into n objects.
func inside(n int, j impl.Json, inObject bool) impl.Json {
	for range n {
		if inObject {
			j = object("a", j)
		} else {
			j = list(j)
		}
	}
	return j
}

// isJson checks all that chapter 3 says about a valid value and its text.
func isJson(t *testing.T, j impl.Json, text string) {
	t.Helper()
	if !impl.JsonOK(j) {
		t.Errorf("JsonOK: %.200q is valid", text)
	}
	if s, code := impl.JsonText(j); s != text || code != impl.OK {
		t.Errorf("JsonText = %.200q, %d, not %.200q", s, code, text)
	}
	if !impl.SameJson(j, j) {
		t.Errorf("SameJson: %.200q is equal to itself", text)
	}
	reads(t, text, j)
}

// noJson checks that every function refuses a value that is invalid.
func noJson(t *testing.T, j impl.Json) {
	t.Helper()
	if impl.JsonOK(j) {
		t.Errorf("JsonOK: %s is invalid", briefJson(j))
	}
	if s, code := impl.JsonText(j); s != "" || code != impl.ErrBad {
		t.Errorf("JsonText(%s) = %.200q, %d", briefJson(j), s, code)
	}
	for _, name := range []string{"", "a", "b", strings.Repeat("a", 120)} {
		if m, code := impl.Member(j, name); !isZero(m) || code != impl.ErrBad {
			t.Errorf("Member(%s, %.20q) = %s, %d", briefJson(j), name, briefJson(m), code)
		}
	}
	if impl.SameJson(j, j) || impl.SameJson(j, null) || impl.SameJson(null, j) {
		t.Errorf("SameJson: %s is invalid", briefJson(j))
	}
}

func isZero(j impl.Json) bool {
	return j.Kind == 0 && j.Num == 0 && j.Text == "" && len(j.Names) == 0 && len(j.Items) == 0
}

func briefJson(j impl.Json) string { return fmt.Sprintf("%.300q", fmt.Sprintf("%+v", j)) }

// equal compares without the program.
func equal(a, b impl.Json) bool {
	return a.Kind == b.Kind && a.Num == b.Num && a.Text == b.Text &&
		slices.Equal(a.Names, b.Names) && slices.EqualFunc(a.Items, b.Items, equal)
}

func reads(t *testing.T, text string, want impl.Json) {
	t.Helper()
	if j, code := impl.ReadJson(text); !equal(j, want) || code != impl.OK {
		t.Errorf("ReadJson(%.200q) = %s, %d, not %s", text, briefJson(j), code, briefJson(want))
	}
}

func refuses(t *testing.T, text string, want int) {
	t.Helper()
	if j, code := impl.ReadJson(text); !isZero(j) || code != want {
		t.Errorf("ReadJson(%.200q) = %s, %d, not %d", text, briefJson(j), code, want)
	}
}

func TestJsonConstants(t *testing.T) {
	kinds := []int{impl.JsNull, impl.JsBool, impl.JsNumber, impl.JsText, impl.JsList, impl.JsObject}
	if !slices.Equal(kinds, []int{1, 2, 3, 4, 5, 6}) {
		t.Error("the kinds are", kinds)
	}
	if impl.MaxDepth != 5 || impl.MaxItems != 12 || impl.MaxString != 120 || impl.MaxNumber != 999999999 {
		t.Error("a constant of chapter 3 is wrong")
	}
}

func TestValuesAndTexts(t *testing.T) {
	for _, v := range []struct {
		j    impl.Json
		text string
	}{
		{null, `null`},
		{boolean(0), `false`},
		{boolean(1), `true`},
		{number(0), `0`},
		{number(7), `7`},
		{number(-1), `-1`},
		{number(10), `10`},
		{number(999999999), `999999999`},
		{number(-999999999), `-999999999`},
		{text(""), `""`},
		{text("a b"), `"a b"`},
		{text("null"), `"null"`},
		{text(`"\/`), `"\"\\/"`},
		{text("\x00\n\x1f\x7f\x80\xff"), `"\u0000\u000a\u001f\u007f\u0080\u00ff"`},
		{text("é"), `"\u00c3\u00a9"`},
		{list(), `[]`},
		{list(null), `[null]`},
		{list(number(1), text("x"), boolean(0)), `[1,"x",false]`},
		{list(list(), list(list(), object())), `[[],[[],{}]]`},
		{object(), `{}`},
		{object("", null), `{"":null}`},
		{object("b", number(1), "a", number(2)), `{"b":1,"a":2}`},
		{object("\"\n", list(), "A", object("a", text("]}"))), `{"\"\u000a":[],"A":{"a":"]}"}}`},
		{object("a", object("a", object("a", object("a", null)))), `{"a":{"a":{"a":{"a":null}}}}`},
	} {
		isJson(t, v.j, v.text)
	}
}

// TestNilAndEmpty: an empty slice and nil are the same value.
func TestNilAndEmpty(t *testing.T) {
	for _, kind := range []int{impl.JsNull, impl.JsBool, impl.JsNumber, impl.JsText, impl.JsList, impl.JsObject} {
		a := impl.Json{Kind: kind}
		b := impl.Json{Kind: kind, Names: []string{}, Items: []impl.Json{}}
		if !impl.JsonOK(a) || !impl.JsonOK(b) || !impl.SameJson(a, b) || !impl.SameJson(b, a) {
			t.Errorf("kind %d with nil and with empty slices", kind)
		}
		x, codeX := impl.JsonText(a)
		y, codeY := impl.JsonText(b)
		if x != y || codeX != impl.OK || codeY != impl.OK {
			t.Errorf("JsonText = %q, %d with nil, %q, %d with empty slices", x, codeX, y, codeY)
		}
	}
}

// TestFieldsOfOtherKinds sets each field that a kind does not have.
func TestFieldsOfOtherKinds(t *testing.T) {
	num := func(j *impl.Json) { j.Num = 1 }
	minus := func(j *impl.Json) { j.Num = -1 }
	word := func(j *impl.Json) { j.Text = "t" }
	long := func(j *impl.Json) { j.Text = strings.Repeat("a", 1<<20) }
	name := func(j *impl.Json) { j.Names = []string{"a"} }
	empty := func(j *impl.Json) { j.Names = []string{""} }
	item := func(j *impl.Json) { j.Items = nulls(1) }
	zero := func(j *impl.Json) { j.Items = make([]impl.Json, 1) }
	both := func(j *impl.Json) { name(j); item(j) }
	type set = func(*impl.Json)
	for _, v := range []struct {
		j    impl.Json
		sets []set
	}{
		{impl.Json{}, []set{num, minus, word, long, name, empty, item, zero, both}},
		{null, []set{num, minus, word, long, name, empty, item, zero, both}},
		{boolean(0), []set{minus, word, long, name, empty, item, zero, both}},
		{boolean(1), []set{minus, word, long, name, empty, item, zero, both}},
		{number(1), []set{word, long, name, empty, item, zero, both}},
		{text("t"), []set{num, minus, name, empty, item, zero, both}},
		{list(), []set{num, minus, word, long, name, empty, zero, both}},
		{list(null), []set{num, minus, word, long, name, empty, zero, both}},
		{object(), []set{num, minus, word, long, name, empty, item, zero}},
		{object("a", null), []set{num, minus, word, long, zero}},
	} {
		if v.j.Kind != 0 && !impl.JsonOK(v.j) {
			t.Errorf("%s is valid", briefJson(v.j))
		}
		for i, set := range v.sets {
			j := v.j
			set(&j)
			noJson(t, j)
			noJson(t, list(j))
			noJson(t, object("b", null, "a", j))
			if t.Failed() {
				t.Fatalf("kind %d, set %d", v.j.Kind, i)
			}
		}
	}
}

func TestNoSuchKind(t *testing.T) {
	for _, kind := range []int{math.MinInt, -1, 0, 7, 8, 256, 1<<32 + 1, math.MaxInt} {
		noJson(t, impl.Json{Kind: kind})
		noJson(t, list(null, impl.Json{Kind: kind}))
		noJson(t, object("a", impl.Json{Kind: kind}))
	}
}

func TestBooleans(t *testing.T) {
	for _, n := range []int{math.MinInt, -1, 2, 3, 256, 1<<32 + 1, math.MaxInt} {
		noJson(t, boolean(n))
	}
}

func TestNumbers(t *testing.T) {
	for _, n := range []int{0, 1, -1, 9, 10, -10, 99, 123456789, 999999998, 999999999, -999999998, -999999999} {
		isJson(t, number(n), fmt.Sprint(n))
	}
	for _, n := range []int{1000000000, -1000000000, 1 << 32, math.MaxInt32, math.MaxInt, math.MinInt, math.MinInt + 1} {
		noJson(t, number(n))
	}
	for _, s := range []string{"1000000000", "-1000000000", "2147483648", "4294967296", "4294967297", "999999999999999999", "-999999999999999999"} {
		refuses(t, s, impl.ErrRange)
		refuses(t, "["+s, impl.ErrRange)
		refuses(t, s+" x", impl.ErrRange)
		refuses(t, s+"x", impl.ErrRange)
	}
	for _, s := range []string{
		"-", "--1", "+1", "- 1", "-0", "00", "01", "-01", "007", "1.5", "1.", ".5", "1e5", "1E5", "0x1", "1_0", "1-", "1-1", "1 2", "-a", "\u0661",
		"1000000000000000000", "-1000000000000000000", "9223372036854775808", "18446744073709551617", "0000000001", "-0000000000000000001",
		strings.Repeat("1", impl.MaxText), strings.Repeat("0", impl.MaxText), strings.Repeat("-", impl.MaxText), "-" + strings.Repeat("9", impl.MaxText-1),
	} {
		refuses(t, s, impl.ErrForm)
	}
}

func TestTextLengthsInJson(t *testing.T) {
	for _, c := range []string{"a", "\"", "\\", "\x00", "\xff"} {
		// An escaped byte counts as one, however long it is in the text.
		most, more := strings.Repeat(c, 120), strings.Repeat(c, 121)
		isJson(t, text(most), impl.QuoteText(most))
		isJson(t, object(most, null), "{"+impl.QuoteText(most)+":null}")
		noJson(t, text(more))
		noJson(t, object(more, null))
		noJson(t, object("a", null, more, null))
		refuses(t, impl.QuoteText(more), impl.ErrSize)
		refuses(t, "{"+impl.QuoteText(more)+":null}", impl.ErrSize)
		refuses(t, "{"+impl.QuoteText(more), impl.ErrSize)
		refuses(t, strings.TrimSuffix(impl.QuoteText(more), `"`), impl.ErrForm)
		refuses(t, strings.TrimSuffix(impl.QuoteText(more), `"`)+"\n\"", impl.ErrForm)
	}
	reads(t, `"`+strings.Repeat(`\u0041`, 120)+`"`, text(strings.Repeat("A", 120)))
	refuses(t, `"`+strings.Repeat(`\u0041`, 121)+`"`, impl.ErrSize)
	refuses(t, `"`+strings.Repeat(`\/`, 121)+`"`, impl.ErrSize)
	refuses(t, `"`+strings.Repeat("a", impl.MaxText-2)+`"`, impl.ErrSize)
	refuses(t, `"`+strings.Repeat("a", impl.MaxText-1), impl.ErrForm)
	for _, n := range []int{121, 122, impl.MaxText, impl.MaxText + 1, 1 << 20} {
		noJson(t, text(strings.Repeat("a", n)))
		noJson(t, object(strings.Repeat("a", n), null))
	}
}

func TestItemCounts(t *testing.T) {
	isJson(t, list(nulls(12)...), "["+joined(12, "null")+"]")
	isJson(t, list(list(nulls(12)...)), "[["+joined(12, "null")+"]]")
	isJson(t, numbered(12), `{"n0":0,"n1":1,"n2":2,"n3":3,"n4":4,"n5":5,"n6":6,"n7":7,"n8":8,"n9":9,"n10":10,"n11":11}`)
	for _, n := range []int{13, 14, 100, impl.MaxList, impl.MaxList + 1} {
		noJson(t, list(nulls(n)...))
		noJson(t, list(list(nulls(n)...)))
		noJson(t, numbered(n))
		noJson(t, object("a", numbered(n)))
	}
	refuses(t, "["+joined(13, "null")+"]", impl.ErrMany)
	refuses(t, "["+joined(1000, "[]")+"]", impl.ErrMany)
	// The list of lists has 13 items in all, but none of its lists has.
	isJson(t, list(list(nulls(6)...), list(nulls(7)...)), "[["+joined(6, "null")+"],["+joined(7, "null")+"]]")
}

func TestNameCounts(t *testing.T) {
	for _, v := range []struct {
		names []string
		items int
	}{
		{nil, 1}, {[]string{"a"}, 0}, {[]string{"a"}, 2}, {[]string{"a", "b"}, 1}, {[]string{"a", "b"}, 3},
		{[]string{""}, 0}, {[]string{"", "a", "b"}, 2}, {make([]string, 1<<16), 1}, {make([]string, 1<<16), 12}, {nil, 12},
	} {
		noJson(t, impl.Json{Kind: impl.JsObject, Names: v.names, Items: nulls(v.items)})
	}
}

func TestNamesThatOccurTwice(t *testing.T) {
	for _, name := range []string{"", "a", "\"", "\xff", strings.Repeat("a", 120)} {
		noJson(t, object(name, null, name, null))
		noJson(t, object(name, null, "b", null, name, null))
		noJson(t, object("b", null, name, null, name, null))
		q := impl.QuoteText(name)
		refuses(t, "{"+q+":1,"+q+":1}", impl.ErrAgain)
		refuses(t, `{"b":{},`+q+`:1,"c":[],`+q, impl.ErrAgain)
	}
	twelve := numbered(11)
	for i := range 11 {
		j := twelve
		j.Names = append(slices.Clone(j.Names), j.Names[i])
		j.Items = append(slices.Clone(j.Items), null)
		noJson(t, j)
	}
	// Names are compared as bytes, not as they are written.
	refuses(t, `{"a":1,"\u0061":2}`, impl.ErrAgain)
	refuses(t, `{"\/":1,"/":2}`, impl.ErrAgain)
	refuses(t, `{"\n":1,"\u000A":2}`, impl.ErrAgain)
	reads(t, `{"\u000a":1,"\\u000a":2,"u000a":3}`, object("\n", number(1), `\u000a`, number(2), "u000a", number(3)))
	isJson(t, object("a", null, "A", null, "a ", null, "", null, "aa", null), `{"a":null,"A":null,"a ":null,"":null,"aa":null}`)
	// Another object may use a name again.
	isJson(t, object("a", object("a", null), "b", object("a", null)), `{"a":{"a":null},"b":{"a":null}}`)
	isJson(t, list(object("a", null), object("a", null)), `[{"a":null},{"a":null}]`)
}

// TestNesting wraps a value, an empty list and an empty object as deep as they
// may be, and then deeper, in lists and in objects.
func TestNesting(t *testing.T) {
	for _, v := range []struct {
		j    impl.Json
		text string
		most int
	}{
		{null, "null", 4},
		{number(1), "1", 4},
		{text(""), `""`, 4},
		{list(), "[]", 3},
		{object(), "{}", 3},
		{list(null), "[null]", 3},
		{object("a", null), `{"a":null}`, 3},
		{list(list()), "[[]]", 2},
		{list(null, object()), "[null,{}]", 2},
	} {
		for n := 0; n <= 8; n++ {
			lists := strings.Repeat("[", n) + v.text + strings.Repeat("]", n)
			objects := strings.Repeat(`{"a":`, n) + v.text + strings.Repeat("}", n)
			if n <= v.most {
				isJson(t, inside(n, v.j, false), lists)
				isJson(t, inside(n, v.j, true), objects)
			} else {
				noJson(t, inside(n, v.j, false))
				noJson(t, inside(n, v.j, true))
				refuses(t, lists, impl.ErrDeep)
				refuses(t, objects, impl.ErrDeep)
			}
		}
	}
	noJson(t, inside(1<<16, null, false))
	// Many values at the deepest levels are as deep as one of them.
	isJson(t, list(list(list(list(nulls(12)...), list()), object()), list()), "[[[["+joined(12, "null")+"],[]],{}],[]]")
}

// TestNestingErrors: a list is too deep where it begins, whatever follows.
func TestNestingErrors(t *testing.T) {
	for _, n := range []int{5, 6, 1000, impl.MaxText} {
		refuses(t, strings.Repeat("[", n), impl.ErrDeep)
	}
	for _, s := range []string{`[[[[{`, `[[[[[x`, `[[[[ [`, `[[[[1,[`, `{"a":{"a":{"a":{"a":{`, `{"a":{"a":{"a":{"a":[`, `[[{"a":[1,2,{`, `[[[],[[],[[`, `[[[[],[]],[[],[[]]]]]`, `[[[[null,{}]]]]`} {
		refuses(t, s, impl.ErrDeep)
	}
	for _, s := range []string{`[[[[`, `[[[[]`, `[[[[]]]`, `{"a":{"a":{"a":{`, `{"a":{"a":{"a":{"a":`, `[[[],[[],[`} {
		refuses(t, s, impl.ErrForm)
	}
}

// TestStringBytes tries every byte in a string, unescaped and escaped.
func TestStringBytes(t *testing.T) {
	for b := range 256 {
		c := string([]byte{byte(b)})
		lower, upper := fmt.Sprintf(`\u00%02x`, b), fmt.Sprintf(`\u00%02X`, b)
		written := c
		switch {
		case c == `"` || c == `\`:
			written = `\` + c
		case b < 32 || b > 126:
			written = lower
		}
		for _, around := range []string{"", "x", "\x00"} {
			s := around + c + around
			q := impl.QuoteText(around)
			side := q[1 : len(q)-1]
			if got := impl.QuoteText(s); got != `"`+side+written+side+`"` {
				t.Errorf("QuoteText(%q) = %s", s, got)
			}
			isJson(t, text(s), `"`+side+written+side+`"`)
			isJson(t, object(s, null), `{"`+side+written+side+`":null}`)
			reads(t, `"`+side+lower+side+`"`, text(s))
			reads(t, `"`+side+upper+side+`"`, text(s))
			reads(t, `{"`+side+upper+side+`":null}`, object(s, null))
			if b < 32 || b > 126 {
				refuses(t, `"`+side+c+side+`"`, impl.ErrForm)
				refuses(t, `{"`+side+c+side+`":null}`, impl.ErrForm)
			} else if written == c {
				reads(t, `"`+side+c+side+`"`, text(s))
			}
		}
	}
}

// TestEscapes tries every byte behind a backslash.
func TestEscapes(t *testing.T) {
	meaning := map[byte]byte{'"': '"', '\\': '\\', '/': '/', 'b': 8, 'f': 12, 'n': 10, 'r': 13, 't': 9}
	for b := range 256 {
		s := `"x\` + string([]byte{byte(b)}) + `y"`
		if m, ok := meaning[byte(b)]; ok {
			reads(t, s, text("x"+string([]byte{m})+"y"))
		} else {
			refuses(t, s, impl.ErrForm)
		}
	}
	reads(t, `"\\n\\\n\"\\"`, text("\\n\\\n\"\\"))
	for _, s := range []string{`"\`, `"\"`, `"\\\"`, `"\u`, `"\u"`, `"\u0`, `"\u0"`, `"\u00`, `"\u00"`, `"\u004`, `"\u004"`, `"\u0041`, `"\U0041"`, `"\u 041"`, `"\x41"`} {
		refuses(t, s, impl.ErrForm)
	}
}

// TestEscapeDigits tries every byte at each place of the four digits.
func TestEscapeDigits(t *testing.T) {
	for b := range 256 {
		c := string([]byte{byte(b)})
		value := strings.Index("0123456789abcdef", strings.ToLower(c))
		if b > 126 {
			value = -1
		}
		for _, v := range []struct {
			text string
			want int
			ok   bool
		}{
			{`"\u` + c + `041"`, 0x41, b == '0'},
			{`"\u0` + c + `41"`, 0x41, b == '0'},
			{`"\u00` + c + `a"`, 16*value + 10, value >= 0},
			{`"\u00F` + c + `"`, 240 + value, value >= 0},
		} {
			if v.ok {
				reads(t, v.text, text(string([]byte{byte(v.want)})))
			} else {
				refuses(t, v.text, impl.ErrForm)
			}
		}
	}
}

// TestWhitespace puts every byte before, between and behind the parts.
func TestWhitespace(t *testing.T) {
	parts := []string{"[", "null", ",", "-12", ",", `"a b"`, ",", "{", `"k"`, ":", "true", ",", `"l"`, ":", "[", "]", "}", ",", "{", "}", "]"}
	want := list(null, number(-12), text("a b"), object("k", boolean(1), "l", list()), object())
	reads(t, strings.Join(parts, ""), want)
	for b := range 256 {
		c := string([]byte{byte(b)})
		for i := 0; i <= len(parts); i++ {
			before, behind := strings.Join(parts[:i], ""), strings.Join(parts[i:], "")
			if strings.Contains(" \t\n\r", c) {
				reads(t, before+c+behind, want)
				reads(t, before+c+c+" "+c+behind, want)
			} else if _, code := impl.ReadJson(before + c + behind); code == impl.OK && (b < '0' || b > '9') {
				t.Errorf("%q is no whitespace", c)
			}
		}
		if strings.Contains(" \t\n\r", c) {
			reads(t, c+strings.Join(parts, c)+c, want)
			refuses(t, c, impl.ErrForm)
		}
	}
	for _, s := range []string{"", " ", "  \t\r\n", "nu ll", "- 1", "1 2", "1\n2", "\ufeffnull", "null\x00", "null\v", "null\f", "\u00a0null", "\"a\" \"b\"", "[1 2]"} {
		refuses(t, s, impl.ErrForm)
	}
	reads(t, "\" a \"", text(" a "))
}

func TestMalformed(t *testing.T) {
	for _, s := range []string{
		"n", "nul", "nulL", "Null", "NULL", "nil", "tru", "True", "fals", "FALSE", "undefined", "NaN", "x", "'a'", "a", "\x00", "\xff",
		"nullx", "null null", "truefalse", "1null", "null,", ",null", "null]", "1}", `"a"b`, `"a""b"`, `"a":1`, "[]]", "{}}", "[][]", "{}{}", "// null",
		"[", "]", "[1", "[1,", "[1,]", "[,1]", "[,]", "[1,,2]", "[1;2]", "[1:2]", "[1}", "[1", "[[]", `["a"`, `["a`, "[nul]", "[-]", "[01]", "[}",
		"{", "}", `{"`, `{"a`, `{"a"`, `{"a"}`, `{"a":`, `{"a":}`, `{"a":1`, `{"a":1,`, `{"a":1,}`, `{,}`, `{,"a":1}`, `{"a":1,,"b":2}`, `{"a",1}`, `{"a" 1}`, `{"a"::1}`, `{"a":1 "b":2}`, `{"a":1:2}`, `{"a":1]`,
		`{a:1}`, `{1:1}`, `{null:1}`, `{[]:1}`, `{{}:1}`, `{"a":1,b:2}`, `{"a":1,2}`, `{"a":x}`, `{]`, `{"a":1,"b"`, `{'a':1}`,
		`"`, `"a`, `a"`, `"""`, "\"a\nb\"", "\"\x7f\"", "\"\u00e9\"", `"\q"`, `"\u0141"`, `"\u1041"`, `"\u00g1"`, `"\u001g"`,
	} {
		refuses(t, s, impl.ErrForm)
	}
}

// TestItemThirteen: the 13th item is one too many where it ends, not before
// its own errors and not after what follows it.
func TestItemThirteen(t *testing.T) {
	members := strings.TrimSuffix(strings.TrimPrefix(mustText(numbered(12)), "{"), "}")
	for _, v := range []struct {
		item string
		code int
	}{
		{"13", impl.ErrMany}, {"13]", impl.ErrMany}, {"13}", impl.ErrMany}, {"13,", impl.ErrMany}, {"13 x", impl.ErrMany}, {"null", impl.ErrMany}, {"true,", impl.ErrMany},
		{"[]", impl.ErrMany}, {"[[]]x", impl.ErrMany}, {"{}", impl.ErrMany}, {`"a"`, impl.ErrMany}, {`"a"x`, impl.ErrMany},
		{"", impl.ErrForm}, {" ", impl.ErrForm}, {"x", impl.ErrForm}, {"]", impl.ErrForm}, {"}", impl.ErrForm}, {",", impl.ErrForm}, {"nul", impl.ErrForm}, {`"a`, impl.ErrForm}, {"[", impl.ErrForm}, {"[1", impl.ErrForm}, {"-", impl.ErrForm}, {"01", impl.ErrForm}, {"{\"a\"", impl.ErrForm},
		{"1000000000", impl.ErrRange}, {"1000000000000000000", impl.ErrForm},
		{impl.QuoteText(strings.Repeat("a", 121)), impl.ErrSize},
		{`{"a":1,"a":`, impl.ErrAgain},
		{"[[[[", impl.ErrDeep},
		{"[" + joined(13, "1"), impl.ErrMany},
	} {
		refuses(t, "["+joined(12, "0")+","+v.item, v.code)
		refuses(t, "{"+members+`,"x":`+v.item, v.code)
	}
	refuses(t, "["+joined(12, "0")+"x", impl.ErrForm)
	refuses(t, "["+joined(12, "0")+",", impl.ErrForm)
	refuses(t, "["+joined(12, "0")+",]", impl.ErrForm)
	refuses(t, "{"+members+`,"x"`, impl.ErrForm)
	refuses(t, "{"+members+`,"x":`, impl.ErrForm)
	refuses(t, "{"+members+`,"n3"`, impl.ErrAgain)
	refuses(t, "{"+members+`,`+impl.QuoteText(strings.Repeat("a", 121)), impl.ErrSize)
}

func mustText(j impl.Json) string {
	s, _ := impl.JsonText(j)
	return s
}

// TestTwoErrors puts each error before each other one, in a list, in an object
// and nested: the first one decides.
func TestTwoErrors(t *testing.T) {
	errors := []struct {
		item string
		code int
	}{
		{"[[[[]]]]", impl.ErrDeep},
		{`{"a":[{"a":{}}]}`, impl.ErrDeep},
		{`"` + strings.Repeat("a", 121) + `"`, impl.ErrSize},
		{`{"` + strings.Repeat("a", 121) + `":1}`, impl.ErrSize},
		{`{"a":1,"a":1}`, impl.ErrAgain},
		{"1000000000", impl.ErrRange},
		{"-1000000000", impl.ErrRange},
		{"[" + joined(13, "1") + "]", impl.ErrMany},
		{`{"a":[` + joined(14, "{}") + "]}", impl.ErrMany},
		{"x", impl.ErrForm},
		{"1000000000000000000", impl.ErrForm},
		{"-0", impl.ErrForm},
		{`"\q"`, impl.ErrForm},
		{"[1,]", impl.ErrForm},
		{`{"a"}`, impl.ErrForm},
	}
	for _, a := range errors {
		for _, b := range errors {
			refuses(t, "["+a.item+","+b.item+"]", a.code)
			refuses(t, "[1,"+a.item+",2,"+b.item+",3]", a.code)
			refuses(t, `{"p":`+a.item+`,"q":`+b.item+"}", a.code)
			refuses(t, `{"p":`+a.item+`,"p":`+b.item+"}", a.code)
			refuses(t, "["+a.item+" "+b.item+"]", a.code)
			refuses(t, "["+a.item+"]"+b.item, a.code)
		}
		refuses(t, `{"p":1,"p":`+a.item+"}", impl.ErrAgain)
		refuses(t, "[null "+a.item+"]", impl.ErrForm)
	}
}

// TestErrorBehindTheValue: anything behind the value is an error only after
// the errors inside it.
func TestErrorBehindTheValue(t *testing.T) {
	for _, s := range []string{"null", "1", `"a"`, "[]", "{}", "[1]", `{"a":1}`} {
		for _, behind := range []string{"x", " x", ",", "]", "}", ":", "null", " 1", `"`, "[", "[[[[[", "1000000000 ", "\x00"} {
			if s == "1" && behind == "1000000000 " {
				continue // that is one number
			}
			refuses(t, s+behind, impl.ErrForm)
		}
	}
}

func TestQuoteText(t *testing.T) {
	for _, v := range []struct{ text, quoted string }{
		{"", `""`},
		{"a", `"a"`},
		{" ~", `" ~"`},
		{`"`, `"\""`},
		{`\`, `"\\"`},
		{`\"`, `"\\\""`},
		{`/`, `"/"`},
		{"\x00\x1f\x7f\xab", `"\u0000\u001f\u007f\u00ab"`},
		{"\u20ac", `"\u00e2\u0082\u00ac"`},
		{"\ufffd", `"\u00ef\u00bf\u00bd"`},
		{`\u0041`, `"\\u0041"`},
	} {
		if q := impl.QuoteText(v.text); q != v.quoted {
			t.Errorf("QuoteText(%q) = %s, not %s", v.text, q, v.quoted)
		}
	}
	// Texts that no value may contain are quoted too.
	for _, n := range []int{121, 1000, impl.MaxText - 1, impl.MaxText} {
		for _, c := range []string{"a", "\x00"} {
			quoted := strings.Repeat(strings.Trim(impl.QuoteText(c), `"`), n)
			if q := impl.QuoteText(strings.Repeat(c, n)); q != `"`+quoted+`"` {
				t.Errorf("QuoteText of %d bytes %q = %.100s", n, c, q)
			}
		}
	}
	for _, n := range []int{impl.MaxText + 1, 1 << 20} {
		if q := impl.QuoteText(strings.Repeat("a", n)); q != "" {
			t.Errorf("QuoteText of %d bytes = %.100s", n, q)
		}
	}
}

func TestMembers(t *testing.T) {
	long := strings.Repeat("a", 120)
	o := object("a", number(1), "", list(null, text("x")), "\"\xff", object("a", boolean(1)), long, text(long), "A", null)
	for i, name := range o.Names {
		if m, code := impl.Member(o, name); !equal(m, o.Items[i]) || code != impl.OK {
			t.Errorf("Member(%.20q) = %s, %d", name, briefJson(m), code)
		}
	}
	for _, v := range []struct {
		j    impl.Json
		name string
		code int
	}{
		{o, "b", impl.ErrNone}, {o, "aa", impl.ErrNone}, {o, " a", impl.ErrNone}, {o, "\"", impl.ErrNone}, {o, long + "a", impl.ErrNone}, {o, strings.Repeat("a", impl.MaxText), impl.ErrNone},
		{object(), "", impl.ErrNone}, {object(), "a", impl.ErrNone}, {object("b", object("a", null)), "a", impl.ErrNone},
		{null, "", impl.ErrKind}, {boolean(1), "a", impl.ErrKind}, {number(1), "a", impl.ErrKind}, {text("a"), "a", impl.ErrKind}, {list(), "a", impl.ErrKind}, {list(o), "a", impl.ErrKind}, {list(), strings.Repeat("a", impl.MaxText), impl.ErrKind},
		{impl.Json{}, "a", impl.ErrBad}, {object("a", impl.Json{}), "a", impl.ErrBad}, {object("b", impl.Json{}, "a", null), "a", impl.ErrBad}, {object("a", null, "a", null), "a", impl.ErrBad}, {list(impl.Json{}), "a", impl.ErrBad}, {number(1000000000), "a", impl.ErrBad},
		{impl.Json{Kind: impl.JsObject, Names: []string{"a"}}, "a", impl.ErrBad},
		{o, strings.Repeat("a", impl.MaxText+1), impl.ErrLong}, {list(), strings.Repeat("a", impl.MaxText+1), impl.ErrLong}, {impl.Json{}, strings.Repeat("a", impl.MaxText+1), impl.ErrLong}, {object(), strings.Repeat("a", 1<<20), impl.ErrLong},
	} {
		if m, code := impl.Member(v.j, v.name); !isZero(m) || code != v.code {
			t.Errorf("Member(%s, %.20q) = %s, %d, not %d", briefJson(v.j), v.name, briefJson(m), code, v.code)
		}
	}
}

// TestSameJson: of different valid values no two are the same.
func TestSameJson(t *testing.T) {
	values := func() []impl.Json {
		return []impl.Json{
			null, boolean(0), boolean(1), number(0), number(1), number(-1), text(""), text("a"), text("A"), text("1"), text("null"), text("a\x00"),
			list(), list(null), list(list()), list(object()), list(null, null), list(number(1), number(2)), list(number(2), number(1)), list(text("a")), list(list(null)),
			object(), object("a", null), object("b", null), object("a", number(1)), object("a", number(1), "b", number(2)), object("b", number(2), "a", number(1)), object("a", number(2), "b", number(1)), object("a", list()), object("a", object()), object("", null),
		}
	}
	for i, a := range values() {
		for j, b := range values() {
			if impl.SameJson(a, b) != (i == j) {
				t.Errorf("SameJson(%s, %s) is not %v", briefJson(a), briefJson(b), i == j)
			}
		}
	}
}

func TestLongJsonTexts(t *testing.T) {
	space := strings.Repeat(" ", impl.MaxText)
	for _, s := range []string{"null", "[1]", `{"a":"b"}`} {
		j, _ := impl.ReadJson(s)
		n := impl.MaxText - len(s)
		reads(t, s+space[:n], j)
		reads(t, space[:n]+s, j)
		refuses(t, s+space[:n+1], impl.ErrLong)
		refuses(t, space[:n+1]+s, impl.ErrLong)
	}
	refuses(t, space, impl.ErrForm)
	refuses(t, space+" ", impl.ErrLong)
	for _, s := range []string{"x", "[", "1", `"`, "{", "\xff", `\`, "[1000000000,"} {
		refuses(t, strings.Repeat(s, impl.MaxText+1), impl.ErrLong)
		refuses(t, strings.Repeat(s, 1<<20), impl.ErrLong)
	}
}

// TestTextsOfLongValues: the text of a value has no limit of its own, but a
// text is read only up to MaxText bytes.
func TestTextsOfLongValues(t *testing.T) {
	escaped := func(n int) impl.Json { return text(strings.Repeat("\x01", n)) }
	full := list(slices.Repeat([]impl.Json{list(slices.Repeat([]impl.Json{escaped(120)}, 8)...)}, 11)...)
	full.Items = append(full.Items, list(escaped(120), escaped(120), escaped(73)))
	s, code := impl.JsonText(full)
	if len(s) != impl.MaxText || code != impl.OK {
		t.Fatalf("the text of the longest value has %d bytes, code %d", len(s), code)
	}
	isJson(t, full, s)
	full.Items[11].Items[2].Text += "a"
	s, code = impl.JsonText(full)
	if len(s) != impl.MaxText+1 || code != impl.OK {
		t.Fatalf("the text of a longer value has %d bytes, code %d", len(s), code)
	}
	refuses(t, s, impl.ErrLong)
	most := text(strings.Repeat("\xff", 120))
	for range 4 {
		most = list(slices.Repeat([]impl.Json{most}, 12)...)
	}
	if s, code := impl.JsonText(most); len(s) < 12*12*12*12*722 || code != impl.OK || !impl.SameJson(most, most) {
		t.Errorf("the text of the largest value has %d bytes, code %d", len(s), code)
	}
}
