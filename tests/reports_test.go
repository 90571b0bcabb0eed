package tests

import (
	"fmt"
	"math"
	"strings"
	"testing"

	"loop.example/g00779/impl"
)

// told is what the report of a violation tells, in the order of its members.
type told struct {
	blocked   string
	column    int
	document  string
	directive string
	line      int
	referrer  string
	sample    string
	source    string
}

func (x told) body() impl.Json {
	return object(
		"blockedURL", text(x.blocked), "columnNumber", number(x.column), "documentURL", text(x.document), "effectiveDirective", text(x.directive),
		"lineNumber", number(x.line), "referrer", text(x.referrer), "sample", text(x.sample), "sourceFile", text(x.source),
	)
}

func (x told) text() string {
	return fmt.Sprintf(
		`{"blockedURL":%s,"columnNumber":%d,"documentURL":%s,"effectiveDirective":%s,"lineNumber":%d,"referrer":%s,"sample":%s,"sourceFile":%s}`,
		quotedByModel(x.blocked), x.column, quotedByModel(x.document), quotedByModel(x.directive),
		x.line, quotedByModel(x.referrer), quotedByModel(x.sample), quotedByModel(x.source),
	)
}

// ordinary is a violation whose report omits something of every text but the
// directive.
func ordinary() impl.Violation {
	return impl.Violation{
		Document:  "https://u:p@a.example/d?q#f",
		Referrer:  "HTTP://v@B.example:80/r?s#g",
		Blocked:   "https://w@c.example:8443/b.js?t#h",
		Source:    "https://x@A.example:443/s.js?u#i",
		Directive: "script-src",
		Sample:    "0123456789abcdefghij0123456789ABCDEFGHIJ and more",
		Line:      12,
		Column:    34,
	}
}

func ofOrdinary() told {
	return told{
		blocked:   "https://c.example:8443/b.js?t",
		column:    34,
		document:  "https://a.example/d?q",
		directive: "script-src",
		line:      12,
		referrer:  "http://b.example/r?s",
		sample:    "0123456789abcdefghij0123456789ABCDEFGHIJ",
		source:    "https://a.example/s.js?u",
	}
}

// like returns the ordinary violation after a change.
func like(change func(*impl.Violation)) impl.Violation {
	v := ordinary()
	change(&v)
	return v
}

func briefViolation(v impl.Violation) string {
	return fmt.Sprintf("%.500q", fmt.Sprintf("%+v", v))
}

// isViolation checks all that chapter 6 says about a valid violation.
func isViolation(t *testing.T, v impl.Violation, want told) {
	t.Helper()
	if !impl.ViolationOK(v) {
		t.Errorf("ViolationOK: %s is valid", briefViolation(v))
	}
	hasParts(t, v, want.blocked, want.source)
	j, code := impl.BodyOf(v)
	if !equal(j, want.body()) || code != impl.OK {
		t.Errorf("BodyOf(%s) = %+v, %d, not %+v", briefViolation(v), j, code, want.body())
	}
	isJson(t, j, want.text())
	s, code := impl.BodyText(v)
	if s != want.text() || code != impl.OK {
		t.Errorf("BodyText(%s) = %q, %d, not %q", briefViolation(v), s, code, want.text())
	}
	if len(s) > impl.MaxBody {
		t.Errorf("BodyText(%s) has %d bytes", briefViolation(v), len(s))
	}
	if !impl.AlikeOutside(v, v) {
		t.Errorf("AlikeOutside: %s has the report of itself", briefViolation(v))
	}
}

func hasParts(t *testing.T, v impl.Violation, blocked, source string) {
	t.Helper()
	if s, code := impl.BlockedPart(v); s != blocked || code != impl.OK {
		t.Errorf("BlockedPart(%s) = %q, %d, not %q", briefViolation(v), s, code, blocked)
	}
	if s, code := impl.SourcePart(v); s != source || code != impl.OK {
		t.Errorf("SourcePart(%s) = %q, %d, not %q", briefViolation(v), s, code, source)
	}
}

// noViolation checks that every function refuses a violation that is invalid.
func noViolation(t *testing.T, v impl.Violation) {
	t.Helper()
	if impl.ViolationOK(v) {
		t.Errorf("ViolationOK: %s is invalid", briefViolation(v))
	}
	if s, code := impl.BlockedPart(v); s != "" || code != impl.ErrBad {
		t.Errorf("BlockedPart(%s) = %.200q, %d", briefViolation(v), s, code)
	}
	if s, code := impl.SourcePart(v); s != "" || code != impl.ErrBad {
		t.Errorf("SourcePart(%s) = %.200q, %d", briefViolation(v), s, code)
	}
	if j, code := impl.BodyOf(v); !isZero(j) || code != impl.ErrBad {
		t.Errorf("BodyOf(%s) = %s, %d", briefViolation(v), briefJson(j), code)
	}
	if s, code := impl.BodyText(v); s != "" || code != impl.ErrBad {
		t.Errorf("BodyText(%s) = %.200q, %d", briefViolation(v), s, code)
	}
	if impl.AlikeOutside(v, v) || impl.AlikeOutside(v, ordinary()) || impl.AlikeOutside(ordinary(), v) {
		t.Errorf("AlikeOutside: %s is invalid", briefViolation(v))
	}
}

// areAlike checks AlikeOutside of two valid violations.
func areAlike(t *testing.T, a, b impl.Violation, want bool) {
	t.Helper()
	x, codeX := impl.BodyText(a)
	y, codeY := impl.BodyText(b)
	if codeX != impl.OK || codeY != impl.OK || (x == y) != want {
		t.Errorf("the reports of %s and %s are %q, %d and %q, %d", briefViolation(a), briefViolation(b), x, codeX, y, codeY)
	}
	if impl.AlikeOutside(a, b) != want || impl.AlikeOutside(b, a) != want {
		t.Errorf("AlikeOutside(%s, %s) is not %v", briefViolation(a), briefViolation(b), want)
	}
}

func TestReportConstants(t *testing.T) {
	if impl.MaxSample != 40 || impl.MaxWhere != 9999 {
		t.Error("MaxSample or MaxWhere is wrong")
	}
}

func TestReports(t *testing.T) {
	isViolation(t, ordinary(), ofOrdinary())
	for _, x := range []struct {
		v    impl.Violation
		want string
	}{
		{ordinary(), `{"blockedURL":"https://c.example:8443/b.js?t","columnNumber":34,"documentURL":"https://a.example/d?q","effectiveDirective":"script-src","lineNumber":12,"referrer":"http://b.example/r?s","sample":"0123456789abcdefghij0123456789ABCDEFGHIJ","sourceFile":"https://a.example/s.js?u"}`},
		{like(func(v *impl.Violation) { v.Redirected, v.Document = true, "http://d" }), `{"blockedURL":"https://c.example:8443","columnNumber":34,"documentURL":"http://d/","effectiveDirective":"script-src","lineNumber":12,"referrer":"http://b.example/r?s","sample":"0123456789abcdefghij0123456789ABCDEFGHIJ","sourceFile":"https://a.example"}`},
		{impl.Violation{Directive: "a"}, `{"blockedURL":"","columnNumber":0,"documentURL":"","effectiveDirective":"a","lineNumber":0,"referrer":"","sample":"","sourceFile":""}`},
		{impl.Violation{Document: "data:d", Referrer: "about:blank", Blocked: "eval", Source: "nothing", Directive: "img-src", Sample: "\"\\\n", Line: 9999, Column: 9999}, `{"blockedURL":"eval","columnNumber":9999,"documentURL":"data","effectiveDirective":"img-src","lineNumber":9999,"referrer":"about","sample":"\"\\\u000a","sourceFile":""}`},
	} {
		if s, code := impl.BodyText(x.v); s != x.want || code != impl.OK {
			t.Errorf("BodyText(%s) = %q, %d, not %q", briefViolation(x.v), s, code, x.want)
		}
		j, code := impl.ReadJson(x.want)
		if body, _ := impl.BodyOf(x.v); code != impl.OK || !equal(j, body) {
			t.Errorf("BodyOf(%s) = %+v, not %+v", briefViolation(x.v), body, j)
		}
	}
}

func TestMembersOfBodies(t *testing.T) {
	names := []string{"blockedURL", "columnNumber", "documentURL", "effectiveDirective", "lineNumber", "referrer", "sample", "sourceFile"}
	kinds := []int{impl.JsText, impl.JsNumber, impl.JsText, impl.JsText, impl.JsNumber, impl.JsText, impl.JsText, impl.JsText}
	for _, v := range []impl.Violation{ordinary(), {Directive: "a"}} {
		j, code := impl.BodyOf(v)
		if code != impl.OK || j.Kind != impl.JsObject || len(j.Names) != 8 || len(j.Items) != 8 {
			t.Fatalf("BodyOf(%s) = %+v, %d", briefViolation(v), j, code)
		}
		for i, name := range names {
			if j.Names[i] != name || j.Items[i].Kind != kinds[i] {
				t.Errorf("BodyOf(%s): member %d is %q: %+v", briefViolation(v), i, j.Names[i], j.Items[i])
			}
		}
	}
}

// urlFields are the fields of a violation that have the limit of a URL.
var urlFields = []func(*impl.Violation) *string{
	func(v *impl.Violation) *string { return &v.Document },
	func(v *impl.Violation) *string { return &v.Referrer },
	func(v *impl.Violation) *string { return &v.Blocked },
	func(v *impl.Violation) *string { return &v.Source },
}

// TestUrlLengths: the limit is one of the text, whether or not it is a URL.
func TestUrlLengths(t *testing.T) {
	for _, field := range urlFields {
		for _, start := range []string{"", "https://x/", "https://x/#", "https://", "data:", "data:#", "https://u@", "\x80", "inline"} {
			for _, n := range []int{len(start), 99, 100, 101, 102, impl.MaxText, impl.MaxText + 1, 1 << 20} {
				v := like(func(v *impl.Violation) { *field(v) = padded(start, n) })
				if n > 100 {
					noViolation(t, v)
				} else {
					isViolation(t, v, modelTold(v))
				}
			}
		}
	}
}

// TestLongestUrls: a text of the greatest length is reported whole, and a text
// that is one byte shorter than a URL may be is none if its URL gets too long.
func TestLongestUrls(t *testing.T) {
	url, none := longUrl(100), padded("https://", 100)
	v := impl.Violation{Document: url, Referrer: url, Blocked: url, Source: url, Directive: "a"}
	isViolation(t, v, told{url, 0, url, "a", 0, url, "", url})
	v = impl.Violation{Document: none, Referrer: none, Blocked: none, Source: none, Directive: "a"}
	isViolation(t, v, told{directive: "a"})
	fits := none[:99]
	v = impl.Violation{Document: fits, Referrer: fits, Blocked: fits, Source: fits, Directive: "a"}
	isViolation(t, v, told{fits + "/", 0, fits + "/", "a", 0, fits + "/", "", fits + "/"})
}

func TestDirectives(t *testing.T) {
	var good, bad []string
	for n := range 30 {
		if n >= 1 && n <= 24 {
			good = append(good, strings.Repeat("z", n), "a"+strings.Repeat("-", n-1))
		} else {
			bad = append(bad, strings.Repeat("z", n))
		}
	}
	good = append(good, "img-src", "report-to", "report-uri", "a--b")
	bad = append(bad, "-", "-a", "Img-src", "img_src", "img-src ", " img-src", "img-src1", "img src", "\xff", "\u017f", strings.Repeat("a", impl.MaxText+1))
	for c := range 256 {
		letter := c >= 'a' && c <= 'z'
		first, later := string([]byte{byte(c)}), string([]byte{'a', byte(c), 'z'})
		for name, ok := range map[string]bool{first: letter, later: letter || c == '-'} {
			if ok {
				good = append(good, name)
			} else {
				bad = append(bad, name)
			}
		}
	}
	for _, name := range good {
		want := ofOrdinary()
		want.directive = name
		isViolation(t, like(func(v *impl.Violation) { v.Directive = name }), want)
	}
	for _, name := range bad {
		noViolation(t, like(func(v *impl.Violation) { v.Directive = name }))
	}
}

func TestLinesAndColumns(t *testing.T) {
	for _, n := range []int{0, 1, 9, 10, 999, 1000, 9998, 9999} {
		want := ofOrdinary()
		want.line = n
		isViolation(t, like(func(v *impl.Violation) { v.Line = n }), want)
		want.column = 9999 - n
		isViolation(t, like(func(v *impl.Violation) { v.Line, v.Column = n, 9999-n }), want)
	}
	for _, n := range []int{math.MinInt, -1 << 32, -9999, -1, 10000, 10001, 1 << 32, 1<<32 + 1, math.MaxInt} {
		noViolation(t, like(func(v *impl.Violation) { v.Line = n }))
		noViolation(t, like(func(v *impl.Violation) { v.Column = n }))
		noViolation(t, like(func(v *impl.Violation) { v.Line, v.Column = n, n }))
		noViolation(t, like(func(v *impl.Violation) { v.Line, v.Column = n, -n }))
	}
}

func TestSeveralMistakes(t *testing.T) {
	long := strings.Repeat("a", 201)
	noViolation(t, impl.Violation{})
	noViolation(t, impl.Violation{Document: long, Referrer: long, Blocked: long, Source: long, Directive: long, Sample: long, Line: -1, Column: 10000})
	noViolation(t, like(func(v *impl.Violation) { v.Sample, v.Line = long, -1 }))
	noViolation(t, like(func(v *impl.Violation) { v.Blocked, v.Directive = long, "" }))
}

// TestMistakesNotToldOf: an invalid field matters also where the report does
// not depend on it.
func TestMistakesNotToldOf(t *testing.T) {
	for _, field := range urlFields {
		for _, blocked := range []string{"inline", "https://x/"} {
			noViolation(t, like(func(v *impl.Violation) { v.Blocked = blocked; *field(v) = padded("data:", 101) }))
		}
	}
	noViolation(t, like(func(v *impl.Violation) { v.Document, v.Source = padded("https://a/#", 101), "" }))
}

func TestBlockedParts(t *testing.T) {
	for _, x := range []struct{ blocked, plain, redirected string }{
		{"inline", "inline", "inline"},
		{"eval", "eval", "eval"},
		{"self", "self", "self"},
		// Only these words, and only as they are.
		{"Inline", "", ""},
		{"INLINE", "", ""},
		{"Eval", "", ""},
		{"SELF", "", ""},
		{"inline ", "", ""},
		{" inline", "", ""},
		{"inline\x00", "", ""},
		{"inlin", "", ""},
		{"evals", "", ""},
		{"evil", "", ""},
		{"'self'", "", ""},
		{"selfself", "", ""},
		{"data", "", ""},
		{"wasm-eval", "", ""},
		{"inline:", "inline", "inline"},
		{"eval:x", "eval", "eval"},
		{"SELF:#x", "self", "self"},
		{"https://inline", "https://inline/", "https://inline"},
		{"https://u:p@c.example/p/q?k#f", "https://c.example/p/q?k", "https://c.example"},
		{"HTTPS://C.example:443?k", "https://c.example/?k", "https://c.example"},
		{"http://c.example:443/?", "http://c.example:443/?", "http://c.example:443"},
		{"http://c.example:80", "http://c.example/", "http://c.example"},
		{"http://@c:8080#", "http://c:8080/", "http://c:8080"},
		{"https://c/p@q:1/https://d/", "https://c/p@q:1/https://d/", "https://c"},
		{"https://c?u@h:1", "https://c/?u@h:1", "https://c"},
		{"data:text/plain,secret", "data", "data"},
		{"DATA:", "data", "data"},
		{"blob:https://u@c.example/secret", "blob", "blob"},
		{"a+b.c-1:x?y#z\xff", "a+b.c-1", "a+b.c-1"},
		{"httpx://u@c/p", "httpx", "httpx"},
		{"", "", ""},
		{"nothing", "", ""},
		{"//c.example/p", "", ""},
		{"https:/c.example/p", "", ""},
		{"https://c.example:0/", "", ""},
		{"https://u@/p", "", ""},
		{"https://c example/", "", ""},
		{"https://c/\x80", "", ""},
		{" https://c/", "", ""},
		{"data:a b", "", ""},
		{"abcdefghijklm:x", "", ""},
		{"\xff\x00", "", ""},
	} {
		want := ofOrdinary()
		want.blocked = x.plain
		isViolation(t, like(func(v *impl.Violation) { v.Blocked = x.blocked }), want)
		want.blocked = x.redirected
		isViolation(t, like(func(v *impl.Violation) { v.Blocked, v.Redirected = x.blocked, true }), want)
	}
}

// TestSourceParts: only of a URL with the document's origin the report tells
// more than the site, and Redirected is about something else.
func TestSourceParts(t *testing.T) {
	for _, x := range []struct{ document, source, want string }{
		{"https://a/", "https://a/", "https://a/"},
		{"https://a/d?q#f", "https://a/s.js?k#g", "https://a/s.js?k"},
		{"https://u@a/", "https://v:w@a/s#g", "https://a/s"},
		{"https://a", "https://a:443/s", "https://a/s"},
		{"https://a:443", "https://a/s", "https://a/s"},
		{"http://a:80/", "HTTP://A?k", "http://a/?k"},
		{"HTTPS://A:8443/", "https://a:8443/s", "https://a:8443/s"},
		{"https://a/?", "https://a?#", "https://a/?"},
		// Another scheme, host or port.
		{"https://a/", "http://a/s?k#f", "http://a"},
		{"http://a/", "https://a/s?k#f", "https://a"},
		{"http://a:443/", "https://a/s", "https://a"},
		{"https://a/", "https://b/s", "https://b"},
		{"https://a/", "https://a.b/s", "https://a.b"},
		{"https://b.a/", "https://a/s", "https://a"},
		{"https://a/", "https://a:8443/s", "https://a:8443"},
		{"https://a:8443/", "https://a/s", "https://a"},
		{"https://a/", "https://a:80/s", "https://a:80"},
		{"https://a/", "http://a:443/s", "http://a:443"},
		// The document's host in another part of the source.
		{"https://a/", "https://a@b/s", "https://b"},
		{"https://a/", "https://u:p@b/a?a#a", "https://b"},
		{"https://a/", "https://b?https://a/", "https://b"},
		{"https://a@b/", "https://a/s", "https://a"},
		// The scheme of another URL, whatever the document is.
		{"https://a/", "data:secret", "data"},
		{"https://a/", "blob:https://a/secret", "blob"},
		{"data:x", "data:x", "data"},
		{"data:x", "data:y", "data"},
		{"about:blank", "https://a/s", "https://a"},
		{"data:https://a/", "https://a/s", "https://a"},
		// No URL.
		{"https://a/", "", ""},
		{"https://a/", "nothing", ""},
		{"https://a/", "/s.js", ""},
		{"https://a/", "https://a /s", ""},
		{"https://a/", "https://a:0/s", ""},
		{"", "https://a/s?k#f", "https://a"},
		{"nothing", "https://a/s", "https://a"},
		{"https://a /", "https://a/s", "https://a"},
		{"https://a:0/", "https://a/s", "https://a"},
		{"//a/", "https://a/s", "https://a"},
		{"a", "a", ""},
		{"", "", ""},
		{"nothing", "data:x", "data"},
		// These are words of Blocked only.
		{"https://a/", "inline", ""},
		{"self", "self", ""},
	} {
		for _, redirected := range []bool{false, true} {
			v := impl.Violation{Document: x.document, Source: x.source, Blocked: "inline", Directive: "a", Redirected: redirected}
			hasParts(t, v, "inline", x.want)
			isViolation(t, v, told{blocked: "inline", directive: "a", document: modelStripped(x.document), source: x.want})
			// Neither the referrer nor the blocked URL makes a source the document's.
			v.Referrer, v.Blocked = x.source, x.source
			if s, code := impl.SourcePart(v); s != x.want || code != impl.OK {
				t.Errorf("SourcePart(%s) = %q, %d, not %q", briefViolation(v), s, code, x.want)
			}
		}
	}
}

func TestDocumentsAndReferrers(t *testing.T) {
	for _, x := range []struct{ url, want string }{
		{"https://u:p@d.example:8443/p/q?k#f", "https://d.example:8443/p/q?k"},
		{"HTTP://D:80?", "http://d/?"},
		{"https://d#f", "https://d/"},
		{"https://d?u@h#f", "https://d/?u@h"},
		{"about:blank", "about"},
		{"Data:x?y#z", "data"},
		{"inline", ""},
		{"self", ""},
		{"", ""},
		{"d", ""},
		{"https://", ""},
		{"https://d/ ", ""},
	} {
		for _, redirected := range []bool{false, true} {
			v := impl.Violation{Document: x.url, Directive: "a", Redirected: redirected}
			isViolation(t, v, told{document: x.want, directive: "a"})
			v = impl.Violation{Referrer: x.url, Directive: "a", Redirected: redirected}
			isViolation(t, v, told{referrer: x.want, directive: "a"})
		}
	}
}

// anyBytes returns n bytes, of which all values occur among any 256.
func anyBytes(n int) string {
	b := make([]byte, n)
	for i := range b {
		b[i] = byte(i*7 + 5)
	}
	return string(b)
}

func TestSampleLengths(t *testing.T) {
	for n := range 201 {
		for _, sample := range []string{anyBytes(n), strings.Repeat("é", 100)[:n], strings.Repeat("\x00", n), strings.Repeat(`"`, n)} {
			want := ofOrdinary()
			want.sample = sample[:min(n, 40)]
			isViolation(t, like(func(v *impl.Violation) { v.Sample = sample }), want)
		}
	}
	for _, n := range []int{201, 202, 256, impl.MaxText, impl.MaxText + 1, 1 << 20} {
		noViolation(t, like(func(v *impl.Violation) { v.Sample = strings.Repeat("a", n) }))
		noViolation(t, like(func(v *impl.Violation) { v.Sample = strings.Repeat("\x80", n) }))
	}
}

func TestBytesAtTheCut(t *testing.T) {
	start := strings.Repeat("s", 39)
	for c := range 256 {
		for _, d := range []byte{0, 'a', '"', 0x80, 0xff, byte(c)} {
			want := ofOrdinary()
			want.sample = start + string([]byte{byte(c)})
			isViolation(t, like(func(v *impl.Violation) { v.Sample = want.sample + string([]byte{d}) }), want)
			want.sample = start + string([]byte{d})
			isViolation(t, like(func(v *impl.Violation) { v.Sample = want.sample + string([]byte{byte(c), d}) }), want)
		}
	}
}

// TestCharactersAtTheCut: the cut counts bytes, and may leave a part of a
// character.
func TestCharactersAtTheCut(t *testing.T) {
	for _, char := range []string{"é", "€", "\U0001f600", "e\u0301"} {
		for before := 36; before <= 41; before++ {
			sample := strings.Repeat("s", before) + char + "end"
			want := ofOrdinary()
			want.sample = sample[:40]
			isViolation(t, like(func(v *impl.Violation) { v.Sample = sample }), want)
		}
	}
	want := ofOrdinary()
	want.sample = strings.Repeat("s", 38) + "\xe2\x82"
	isViolation(t, like(func(v *impl.Violation) { v.Sample = strings.Repeat("s", 38) + "€" }), want)
}

func TestEscapedBodies(t *testing.T) {
	v := impl.Violation{Document: `https://a/"\?"#"`, Referrer: `https://b/\u0041"`, Blocked: `https://c/"?\`, Source: `https://a/\"`, Directive: "a", Sample: "\"\\\x00\x1f \x7f\xff/é\n"}
	isViolation(t, v, told{`https://c/"?\`, 0, `https://a/"\?"`, "a", 0, `https://b/\u0041"`, "\"\\\x00\x1f \x7f\xff/é\n", `https://a/\"`})
	want := `{"blockedURL":"https://c/\"?\\","columnNumber":0,"documentURL":"https://a/\"\\?\"","effectiveDirective":"a","lineNumber":0,"referrer":"https://b/\\u0041\"","sample":"\"\\\u0000\u001f \u007f\u00ff/\u00c3\u00a9\u000a","sourceFile":"https://a/\\\""}`
	if s, code := impl.BodyText(v); s != want || code != impl.OK {
		t.Errorf("BodyText = %q, %d, not %q", s, code, want)
	}
}

// TestLongestBody: every text is as long as it can be and is escaped in as
// many bytes as it can.
func TestLongestBody(t *testing.T) {
	url := "http://x/" + strings.Repeat(`"`, 91)
	v := impl.Violation{Document: url, Referrer: url, Blocked: url, Source: url, Directive: padded("a", 24), Sample: strings.Repeat("\xff", 200), Line: 9999, Column: 9999}
	isViolation(t, v, told{url, 9999, url, v.Directive, 9999, url, strings.Repeat("\xff", 40), url})
	// Four URLs, the directive, the sample, two numbers, and what is the same in
	// all bodies.
	if s, _ := impl.BodyText(v); len(s) != 4*(9+2*91)+24+6*40+2*4+130 {
		t.Errorf("the body has %d bytes", len(s))
	}
}

// omitted are changes of the ordinary violation that its report does not tell.
var omitted = map[string]func(*impl.Violation){
	"nothing":              func(v *impl.Violation) {},
	"user of Document":     func(v *impl.Violation) { v.Document = "https://other@a.example/d?q#f" },
	"no user of Document":  func(v *impl.Violation) { v.Document = "https://a.example/d?q#f" },
	"fragment of Document": func(v *impl.Violation) { v.Document = "https://u:p@a.example/d?q#other" },
	"no fragment":          func(v *impl.Violation) { v.Document = "https://u:p@a.example/d?q" },
	"empty fragment":       func(v *impl.Violation) { v.Document = "https://u:p@a.example/d?q#" },
	"user of Referrer":     func(v *impl.Violation) { v.Referrer = "http://other@b.example/r?s#g" },
	"fragment of Referrer": func(v *impl.Violation) { v.Referrer = "http://v@b.example/r?s#?@/#" },
	"user of Blocked":      func(v *impl.Violation) { v.Blocked = "https://c.example:8443/b.js?t#h" },
	"fragment of Blocked":  func(v *impl.Violation) { v.Blocked = "https://w@c.example:8443/b.js?t" },
	"user of Source":       func(v *impl.Violation) { v.Source = "https://:::@a.example/s.js?u#i" },
	"fragment of Source":   func(v *impl.Violation) { v.Source = "https://x@a.example/s.js?u#j" },
	"case and default port": func(v *impl.Violation) {
		v.Document, v.Source = "HTTPS://A.EXAMPLE:443/d?q", "hTTps://a.EXAMPLE/s.js?u"
	},
	"end of the sample":    func(v *impl.Violation) { v.Sample = v.Sample[:40] + "\xff\x00" },
	"no end of the sample": func(v *impl.Violation) { v.Sample = v.Sample[:40] },
}

func TestAlikeInWhatIsOmitted(t *testing.T) {
	for _, changeA := range omitted {
		for _, changeB := range omitted {
			areAlike(t, like(changeA), like(changeB), true)
		}
		isViolation(t, like(changeA), ofOrdinary())
	}
	redirect := func(v *impl.Violation) { v.Redirected, v.Source = true, "https://s.example/x?y#z" }
	for name, change := range omitted {
		a, b := like(redirect), ordinary()
		change(&b)
		redirect(&b)
		areAlike(t, a, b, true)
		if t.Failed() {
			t.Fatal(name)
		}
	}
}

// TestAlikeWithSites: of a site, neither path nor query is told, and of another
// URL nothing but its scheme.
func TestAlikeWithSites(t *testing.T) {
	for _, list := range [][]string{
		{"https://s.example", "https://s.example/", "https://s.example/p", "https://s.example/p/q?k=v", "https://s.example?", "https://u@S.example:443/?#f", "https://s.example/a.example"},
		{"http://s.example:8080/", "HTTP://s.example:8080?q", "http://u:p@s.example:8080/secret"},
		{"data:", "data:x", "DATA:secret?q#f", "data://u@h:1/p"},
		{"", "nothing", "https://", "https://s.example:0/", "//s.example/", "Inline", "\xff", "data: x", padded("https://", 100)},
	} {
		for _, x := range list {
			for _, y := range list {
				a, b := ordinary(), ordinary()
				a.Source, b.Source = x, y
				areAlike(t, a, b, true)
				a, b = ordinary(), ordinary()
				a.Blocked, b.Blocked, a.Redirected, b.Redirected = x, y, true, true
				areAlike(t, a, b, true)
			}
		}
	}
	// Also if the source had the origin of the document, were that a URL.
	a := like(func(v *impl.Violation) { v.Document, v.Source = "data:d", "https://a.example/s" })
	b := like(func(v *impl.Violation) { v.Document, v.Source = "data:e", "https://a.example/t?u" })
	areAlike(t, a, b, true)
	// Redirected alone is not told.
	for _, blocked := range []string{"inline", "eval", "self", "data:x", "nothing", ""} {
		a := like(func(v *impl.Violation) { v.Blocked = blocked })
		b := like(func(v *impl.Violation) { v.Blocked, v.Redirected = blocked, true })
		areAlike(t, a, b, true)
	}
	areAlike(t, like(func(v *impl.Violation) { v.Blocked = "inline" }), like(func(v *impl.Violation) { v.Blocked = "inline:x" }), true)
}

// TestNotAlike: each of these changes is told.
func TestNotAlike(t *testing.T) {
	changes := []func(*impl.Violation){
		func(v *impl.Violation) {},
		func(v *impl.Violation) { v.Document = "https://a.example/d" },
		func(v *impl.Violation) { v.Document = "https://a.example/e?q" },
		func(v *impl.Violation) { v.Document = "https://a.example/d?" },
		func(v *impl.Violation) { v.Document = "https://aa.example/d?q" },
		func(v *impl.Violation) { v.Document = "http://a.example/d?q" },
		func(v *impl.Violation) { v.Document = "https://a.example:80/d?q" },
		func(v *impl.Violation) { v.Document = "" },
		func(v *impl.Violation) { v.Document = "data:" },
		func(v *impl.Violation) { v.Referrer = "http://b.example/r" },
		func(v *impl.Violation) { v.Referrer = "https://b.example/r?s" },
		func(v *impl.Violation) { v.Referrer = "" },
		func(v *impl.Violation) { v.Blocked = "https://c.example:8443/b.js" },
		func(v *impl.Violation) { v.Blocked = "https://c.example/b.js?t" },
		func(v *impl.Violation) { v.Blocked = "inline" },
		func(v *impl.Violation) { v.Blocked = "eval" },
		func(v *impl.Violation) { v.Blocked = "self" },
		func(v *impl.Violation) { v.Blocked = "Inline" },
		func(v *impl.Violation) { v.Redirected = true },
		func(v *impl.Violation) { v.Source = "https://a.example/s.js" },
		func(v *impl.Violation) { v.Source = "https://a.example/S.js?u" },
		func(v *impl.Violation) { v.Source = "https://b.example/s.js?u" },
		func(v *impl.Violation) { v.Source = "http://a.example/s.js?u" },
		func(v *impl.Violation) { v.Source = "https://a.example:8443/s.js?u" },
		func(v *impl.Violation) { v.Source = "" },
		func(v *impl.Violation) { v.Source = "data:" },
		func(v *impl.Violation) { v.Directive = "script-sr" },
		func(v *impl.Violation) { v.Directive = "script-src-" },
		func(v *impl.Violation) { v.Sample = "" },
		func(v *impl.Violation) { v.Sample = v.Sample[:39] },
		func(v *impl.Violation) { v.Sample = v.Sample[:39] + "\xff" },
		func(v *impl.Violation) { v.Sample = "x" + v.Sample[1:] },
		func(v *impl.Violation) { v.Line++ },
		func(v *impl.Violation) { v.Column++ },
		func(v *impl.Violation) { v.Line, v.Column = v.Column, v.Line },
	}
	for i, changeA := range changes {
		for j, changeB := range changes {
			areAlike(t, like(changeA), like(changeB), i == j)
		}
	}
}
