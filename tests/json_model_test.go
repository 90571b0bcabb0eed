package tests

import (
	"fmt"
	"math"
	"math/rand"
	"regexp"
	"slices"
	"strconv"
	"strings"
	"testing"

	"loop.example/g00779/impl"
)

// The model reads chapter 3 a second time: it cuts a text into tokens with
// regular expressions and keeps a stack of what is open, where the program
// goes byte by byte and calls itself.
var (
	modelSpace     = regexp.MustCompile(`^[ \t\n\r]*`)
	modelOpen      = regexp.MustCompile(`^[\[{]`)
	modelNothing   = regexp.MustCompile(`^`)
	modelListEnd   = regexp.MustCompile(`^\]`)
	modelObjectEnd = regexp.MustCompile(`^}`)
	modelComma     = regexp.MustCompile(`^,`)
	modelColon     = regexp.MustCompile(`^:`)
	modelWord      = regexp.MustCompile(`^(null|false|true)`)
	modelDigits    = regexp.MustCompile(`^-?[0-9]*`)
	modelInteger   = regexp.MustCompile(`^(0|-?[1-9][0-9]{0,17})$`)
	modelQuoted    = regexp.MustCompile(`^"([ !#-\[\]-~]|\\["\\/bfnrt]|\\u00[0-9A-Fa-f]{2})*"`)
	modelEscape    = regexp.MustCompile(`\\(u00..|.)`)
)

// modelLexer is the text that is not read yet.
type modelLexer string

// next skips whitespace and returns the token that follows, if it matches.
func (l *modelLexer) next(token *regexp.Regexp) string {
	rest := strings.TrimPrefix(string(*l), modelSpace.FindString(string(*l)))
	found := token.FindString(rest)
	*l = modelLexer(rest[len(found):])
	return found
}

func (l *modelLexer) str() (string, int) {
	quoted := l.next(modelQuoted)
	if quoted == "" {
		return "", impl.ErrForm
	}
	t := modelEscape.ReplaceAllStringFunc(quoted[1:len(quoted)-1], func(e string) string {
		if i := strings.Index("bfnrt", e[1:]); i >= 0 {
			return string("\b\f\n\r\t"[i])
		}
		if len(e) == 2 {
			return e[1:]
		}
		n, _ := strconv.ParseInt(e[4:], 16, 64)
		return string([]byte{byte(n)})
	})
	if len(t) > 120 {
		return "", impl.ErrSize
	}
	return t, impl.OK
}

// simple reads a value that is no list and no object.
func (l *modelLexer) simple() (impl.Json, int) {
	if l.next(modelNothing); strings.HasPrefix(string(*l), `"`) {
		t, code := l.str()
		return text(t), code
	}
	switch l.next(modelWord) {
	case "null":
		return null, impl.OK
	case "false":
		return boolean(0), impl.OK
	case "true":
		return boolean(1), impl.OK
	}
	digits := l.next(modelDigits)
	if !modelInteger.MatchString(digits) {
		return impl.Json{}, impl.ErrForm
	}
	n, _ := strconv.Atoi(digits)
	if math.Abs(float64(n)) > 999999999 {
		return impl.Json{}, impl.ErrRange
	}
	return number(n), impl.OK
}

// begin reads what is before the next item of a list or an object: its name.
func (l *modelLexer) begin(of *impl.Json) int {
	if of.Kind == impl.JsList {
		return impl.OK
	}
	name, code := l.str()
	if code != impl.OK {
		return code
	}
	if slices.Contains(of.Names, name) {
		return impl.ErrAgain
	}
	if l.next(modelColon) == "" {
		return impl.ErrForm
	}
	of.Names = append(of.Names, name)
	return impl.OK
}

func (l *modelLexer) ends(j impl.Json) bool {
	if j.Kind == impl.JsList {
		return l.next(modelListEnd) != ""
	}
	return l.next(modelObjectEnd) != ""
}

func modelRead(t string) (impl.Json, int) {
	if len(t) > 65536 {
		return impl.Json{}, impl.ErrLong
	}
	lexer := modelLexer(t)
	var open []impl.Json // the lists and objects that have begun and not ended
	for {
		var value impl.Json
		code := impl.OK
		if begin := lexer.next(modelOpen); begin == "" {
			value, code = lexer.simple()
		} else if len(open) == 4 {
			code = impl.ErrDeep
		} else {
			value.Kind = impl.JsList + strings.Index("[{", begin)
			if !lexer.ends(value) {
				if code = lexer.begin(&value); code != impl.OK {
					return impl.Json{}, code
				}
				open = append(open, value)
				continue
			}
		}
		if code != impl.OK {
			return impl.Json{}, code
		}
		if open, value, code = lexer.ended(open, value); code != impl.OK {
			return impl.Json{}, code
		}
		if len(open) == 0 {
			return value, impl.OK
		}
	}
}

// ended puts a value that has ended into the innermost open one, and ends those
// that end behind it. It returns what is still open, and the value that ended
// last.
func (l *modelLexer) ended(open []impl.Json, value impl.Json) ([]impl.Json, impl.Json, int) {
	for len(open) > 0 {
		top := &open[len(open)-1]
		top.Items = append(top.Items, value)
		if len(top.Items) == 13 {
			return nil, value, impl.ErrMany
		}
		if l.next(modelComma) != "" {
			return open, value, l.begin(top)
		}
		if !l.ends(*top) {
			return nil, value, impl.ErrForm
		}
		value = *top
		open = open[:len(open)-1]
	}
	if l.next(modelNothing); *l != "" {
		return nil, value, impl.ErrForm
	}
	return nil, value, impl.OK
}

func modelDepth(j impl.Json) int {
	if j.Kind != impl.JsList && j.Kind != impl.JsObject {
		return 1
	}
	deepest := 1
	for _, item := range j.Items {
		deepest = max(deepest, modelDepth(item))
	}
	return 1 + deepest
}

func modelJsonOK(j impl.Json) bool { return modelDepth(j) <= 5 && modelFields(j) }

func modelFields(j impl.Json) bool {
	has := func(num, text, names, items bool) bool {
		return (num || j.Num == 0) && (text || j.Text == "") && (names || len(j.Names) == 0) && (items || len(j.Items) == 0)
	}
	different := map[string]bool{}
	for _, name := range j.Names {
		if len(name) > 120 {
			return false
		}
		different[name] = true
	}
	for _, item := range j.Items {
		if !modelFields(item) {
			return false
		}
	}
	switch j.Kind {
	case impl.JsNull:
		return has(false, false, false, false)
	case impl.JsBool:
		return has(true, false, false, false) && (j.Num == 0 || j.Num == 1)
	case impl.JsNumber:
		return has(true, false, false, false) && j.Num > -1000000000 && j.Num < 1000000000
	case impl.JsText:
		return has(false, true, false, false) && len(j.Text) < 121
	case impl.JsList:
		return has(false, false, false, true) && len(j.Items) < 13
	case impl.JsObject:
		return has(false, false, true, true) && len(j.Items) < 13 && len(different) == len(j.Items) && len(j.Names) == len(j.Items)
	}
	return false
}

// jsonParts returns the parts of the text of a value; the program may not put
// anything between them.
func jsonParts(j impl.Json) []string {
	switch j.Kind {
	case impl.JsNull:
		return []string{"null"}
	case impl.JsBool:
		return []string{[]string{"false", "true"}[j.Num]}
	case impl.JsNumber:
		return []string{fmt.Sprint(j.Num)}
	case impl.JsText:
		return []string{quotedByModel(j.Text)}
	}
	var parts []string
	for i, item := range j.Items {
		if j.Kind == impl.JsObject {
			parts = append(parts, quotedByModel(j.Names[i]), ":")
		}
		parts = append(append(parts, jsonParts(item)...), ",")
	}
	parts = parts[:max(len(parts)-1, 0)]
	if j.Kind == impl.JsObject {
		return append(append([]string{"{"}, parts...), "}")
	}
	return append(append([]string{"["}, parts...), "]")
}

func quotedByModel(t string) string {
	var b strings.Builder
	for i := 0; i < len(t); i++ {
		if t[i] == '"' || t[i] == '\\' {
			fmt.Fprintf(&b, `\%c`, t[i])
		} else if t[i] < ' ' || t[i] > '~' {
			fmt.Fprintf(&b, `\u%04x`, t[i])
		} else {
			b.WriteByte(t[i])
		}
	}
	return `"` + b.String() + `"`
}

// spelled writes the parts of a value with whitespace around them and with
// other escapes.
func spelled(r *rand.Rand, parts []string) string {
	spaces := []string{"", "", "", " ", "\t", "\n", "\r", " \r\n\t "}
	var b strings.Builder
	for _, part := range parts {
		b.WriteString(spaces[r.Intn(len(spaces))])
		if modelQuoted.FindString(part) == part && r.Intn(2) == 0 {
			part = respelled(r, part)
		}
		b.WriteString(part)
	}
	b.WriteString(spaces[r.Intn(len(spaces))])
	return b.String()
}

func respelled(r *rand.Rand, quoted string) string {
	short := map[string]string{`\u0008`: `\b`, `\u0009`: `\t`, `\u000a`: `\n`, `\u000c`: `\f`, `\u000d`: `\r`, "/": `\/`}
	inside := regexp.MustCompile(`\\u00..|\\.|.`).ReplaceAllStringFunc(quoted[1:len(quoted)-1], func(e string) string {
		if s, ok := short[e]; ok && r.Intn(2) == 0 {
			return s
		}
		if len(e) == 6 && r.Intn(2) == 0 {
			return `\u00` + strings.ToUpper(e[4:])
		}
		if len(e) < 6 && r.Intn(4) == 0 {
			return fmt.Sprintf(`\u00%02X`, e[len(e)-1])
		}
		return e
	})
	return `"` + inside + `"`
}

func randomString(r *rand.Rand) string {
	switch r.Intn(12) {
	case 0:
		return strings.Repeat("x", 118+r.Intn(3))
	case 1:
		return ""
	}
	pieces := []string{"a", "b", "c", "name", " ", "\"", "\\", "/", "\b\f\n\r\t", "\x00", "\x1f", "~", "\x7f", "\x80", "\xff", "é", "[", "}", ":", ",", "1", "null", `\u0041`}
	var b strings.Builder
	for n := r.Intn(5); n > 0; n-- {
		b.WriteString(pieces[r.Intn(len(pieces))])
	}
	return b.String()
}

// randomJson returns a valid value that is nested at most levels deep.
func randomJson(r *rand.Rand, levels int) impl.Json {
	numbers := []int{0, 1, -1, 10, 999999999, -999999999, r.Intn(1000), -r.Intn(1 << 29)}
	kind := 1 + r.Intn(4)
	if levels > 1 && r.Intn(3) > 0 {
		kind = 5 + r.Intn(2)
	}
	switch kind {
	case impl.JsBool:
		return boolean(r.Intn(2))
	case impl.JsNumber:
		return number(numbers[r.Intn(len(numbers))])
	case impl.JsText:
		return text(randomString(r))
	case impl.JsList, impl.JsObject:
		j := impl.Json{Kind: kind}
		n := r.Intn(5)
		if r.Intn(12) == 0 {
			n = 11 + r.Intn(2)
		}
		for range n {
			name := randomString(r)
			if kind == impl.JsObject && slices.Contains(j.Names, name) {
				continue
			}
			if kind == impl.JsObject {
				j.Names = append(j.Names, name)
			}
			j.Items = append(j.Items, randomJson(r, levels-1))
		}
		return j
	}
	return null
}

// brokenJson changes one value inside j in a way that is mostly not allowed.
// j is built by randomJson, so nothing else refers to its slices.
func brokenJson(r *rand.Rand, j impl.Json) impl.Json {
	if len(j.Items) > 0 && r.Intn(3) > 0 {
		i := r.Intn(len(j.Items))
		j.Items[i] = brokenJson(r, j.Items[i])
		return j
	}
	switch r.Intn(9) {
	case 0:
		j.Kind = []int{math.MinInt, -1, 0, 1, 2, 3, 4, 5, 6, 7}[r.Intn(10)]
	case 1:
		j.Num = []int{0, 1, 2, -1, 1000000000, -1000000000, math.MaxInt, math.MinInt}[r.Intn(8)]
	case 2:
		j.Text = strings.Repeat("t", 1+r.Intn(2)*120)
	case 3:
		j.Names = append(j.Names, "n")
	case 4:
		j.Items = append(j.Items, null)
	case 5:
		if len(j.Names) > 1 {
			j.Names[len(j.Names)-1] = j.Names[0]
		}
	case 6:
		if len(j.Names) > 0 {
			j.Names[len(j.Names)-1] = strings.Repeat("n", 121)
		}
	case 7:
		return inside(1+r.Intn(4), j, r.Intn(2) == 0)
	case 8:
		j.Items = append(j.Items, nulls(13)...)
		if j.Kind == impl.JsObject {
			j.Names = append(j.Names, numbered(13).Names...)
		}
	}
	return j
}

// randomJsonText returns a text that need not be that of a value.
func randomJsonText(r *rand.Rand) string {
	return misspelled(r, jsonParts(randomJson(r, 1+r.Intn(5))))
}

// misspelled changes some of the parts of a value, and spells them.
func misspelled(r *rand.Rand, parts []string) string {
	others := []string{
		"[", "]", "{", "}", ",", ":", "null", "true", "false", "0", "-1", "999999999", "1000000000", "-1000000000", "1000000000000000000", "01", "-0", "-", "1.5",
		`"a"`, `""`, `"\u0041"`, `"\/"`, `"`, `"\q"`, `"\u0100"`, "\"\x80\"", `"` + strings.Repeat("x", 121) + `"`, `"` + strings.Repeat(`\n`, 120) + `"`,
		`"a":1,"\u0061":2`, "[[[", "[[[[[]]]]]", "{}", "[" + joined(13, "1") + "]", joined(12, "null"), "nul", "x", " ", "\x00",
	}
	for n := r.Intn(4); n > 0; n-- {
		i := r.Intn(len(parts))
		other := others[r.Intn(len(others))]
		switch r.Intn(6) {
		case 0:
			parts[i] = other
		case 1:
			parts = slices.Insert(parts, i, other)
		case 2:
			parts = slices.Insert(parts, i, parts[r.Intn(len(parts))])
		case 3:
			if len(parts) > 1 {
				parts = slices.Delete(parts, i, i+1)
			}
		case 4:
			b := []byte(parts[i])
			b[r.Intn(len(b))] = byte(r.Intn(256))
			parts[i] = string(b)
		case 5:
			if colons := placesOf(parts, ":"); len(colons) > 1 {
				parts[colons[len(colons)-1]-1] = parts[colons[r.Intn(len(colons))]-1]
			}
		}
	}
	return spelled(r, parts)
}

// placesOf leaves out the first place, which has nothing before it.
func placesOf(parts []string, part string) []int {
	var places []int
	for i := 1; i < len(parts); i++ {
		if parts[i] == part {
			places = append(places, i)
		}
	}
	return places
}

// checkRead compares ReadJson with the model, and checks promise 3 for what it
// reads; it returns the code.
func checkRead(t *testing.T, s string) int {
	t.Helper()
	want, code := modelRead(s)
	j, c := impl.ReadJson(s)
	if c != code || !equal(j, want) {
		t.Fatalf("ReadJson(%q) = %s, %d, not %s, %d", s, briefJson(j), c, briefJson(want), code)
	}
	if code == impl.OK {
		isJson(t, j, strings.Join(jsonParts(j), ""))
	}
	return code
}

func TestModelOfJsonTexts(t *testing.T) {
	r := rand.New(rand.NewSource(11))
	found := map[int]int{}
	for i := 0; i < 40000 && !t.Failed(); i++ {
		found[checkRead(t, randomJsonText(r))]++
	}
	for _, code := range []int{impl.OK, impl.ErrDeep, impl.ErrSize, impl.ErrAgain, impl.ErrRange, impl.ErrMany, impl.ErrForm} {
		if found[code] < 150 {
			t.Errorf("only %d texts have the code %d", found[code], code)
		}
	}
}

// TestEveryByteEverywhere puts every byte into every place of a text, also
// instead of the byte that is there, and removes the byte.
func TestEveryByteEverywhere(t *testing.T) {
	for _, s := range []string{
		`[1,"a\n\u00Af",{"k":null,"l":[true,-20]}]`,
		` { "" : false , "\"" : [ ] , "/" : { } } `,
		`[[[[999999999,-999999999]]],"\\\/"]`,
		"[" + joined(11, "0") + ",10]",
		`"` + strings.Repeat("a", 119) + `\n"`,
	} {
		everyByte(s, func(s string) { checkRead(t, s) })
	}
}

// everyByte calls check with s after each change of one byte, and with what is
// before and behind each place.
func everyByte(s string, check func(string)) {
	for i := 0; i <= len(s); i++ {
		check(s[:i])
		check(s[i:])
		for b := range 256 {
			c := string([]byte{byte(b)})
			check(s[:i] + c + s[i:])
			if i < len(s) {
				check(s[:i] + c + s[i+1:])
			}
		}
		if i < len(s) {
			check(s[:i] + s[i+1:])
		}
	}
}

func TestModelOfJsonValues(t *testing.T) {
	r := rand.New(rand.NewSource(12))
	found := map[bool]int{}
	for i := 0; i < 30000 && !t.Failed(); i++ {
		j := randomJson(r, 1+r.Intn(6))
		for n := r.Intn(3); n > 0; n-- {
			j = brokenJson(r, j)
		}
		ok := modelJsonOK(j)
		found[ok]++
		if !ok {
			noJson(t, j)
			continue
		}
		parts := jsonParts(j)
		isJson(t, j, strings.Join(parts, ""))
		// Promise 3: also with whitespace between the parts.
		for _, s := range []string{strings.Join(parts, " "), " " + strings.Join(parts, "\r\n\t ") + "\n", spelled(r, parts), spelled(r, parts)} {
			if len(s) <= impl.MaxText {
				reads(t, s, j)
			}
		}
	}
	if found[true] < 5000 || found[false] < 5000 {
		t.Errorf("%d values are valid, and %d are not", found[true], found[false])
	}
}

// TestModelOfEquality: two valid values are the same if and only if they have
// the same text.
func TestModelOfEquality(t *testing.T) {
	r := rand.New(rand.NewSource(13))
	found := map[bool]int{}
	for range 20000 {
		seed, levels := r.Int63n(5000), 1+r.Intn(6)
		a := randomJson(rand.New(rand.NewSource(seed)), levels)
		b := randomJson(rand.New(rand.NewSource(seed)), levels)
		if r.Intn(2) == 0 {
			b = brokenJson(r, b)
		}
		same := modelJsonOK(a) && modelJsonOK(b) && slices.Equal(jsonParts(a), jsonParts(b))
		found[same]++
		if impl.SameJson(a, b) != same || impl.SameJson(b, a) != same {
			t.Fatalf("SameJson(%s, %s) is not %v", briefJson(a), briefJson(b), same)
		}
	}
	if found[true] < 1000 || found[false] < 1000 {
		t.Errorf("%d pairs are the same, and %d are not", found[true], found[false])
	}
}
