package tests

import (
	"fmt"
	"slices"
	"strings"
	"testing"

	"loop.example/g00779/impl"
)

func rule(name string, words ...string) impl.Rule { return impl.Rule{Name: name, Words: words} }

// plain returns a policy whose rules are neither report-to nor report-uri.
func plain(rules ...impl.Rule) impl.Policy { return impl.Policy{Rules: rules} }

// rules returns n rules named from the given letter on.
func rules(from byte, n int) []impl.Rule {
	var list []impl.Rule
	for i := range n {
		list = append(list, rule(string(from+byte(i))))
	}
	return list
}

// words returns n different words.
func words(n int) []string {
	var list []string
	for i := range n {
		list = append(list, fmt.Sprint("w", i))
	}
	return list
}

func sameRule(a, b impl.Rule) bool { return a.Name == b.Name && slices.Equal(a.Words, b.Words) }

// samePolicy compares without the program.
func samePolicy(a, b impl.Policy) bool {
	return a.ReportTo == b.ReportTo && slices.Equal(a.Uris, b.Uris) && slices.EqualFunc(a.Rules, b.Rules, sameRule)
}

func isNoPolicy(p impl.Policy) bool { return samePolicy(p, impl.Policy{}) }

func briefPolicy(p impl.Policy) string { return fmt.Sprintf("%.400q", fmt.Sprintf("%+v", p)) }

// isPolicy checks all that chapter 5 says about a valid policy.
func isPolicy(t *testing.T, p impl.Policy) {
	t.Helper()
	if !impl.PolicyOK(p) {
		t.Errorf("PolicyOK: %s is valid", briefPolicy(p))
	}
	var parts []string
	for _, r := range p.Rules {
		parts = append(parts, strings.Join(append([]string{r.Name}, r.Words...), " "))
	}
	want := strings.Join(parts, "; ")
	if s, code := impl.PolicyText(p); s != want || code != impl.OK {
		t.Errorf("PolicyText = %.400q, %d, not %.400q", s, code, want)
	}
	if len(want) <= impl.MaxText {
		if again, code := impl.ReadPolicy(want); !samePolicy(again, p) || code != impl.OK {
			t.Errorf("ReadPolicy(%.400q) = %s, %d, not %s", want, briefPolicy(again), code, briefPolicy(p))
		}
	} else {
		refusesPolicy(t, want, impl.ErrLong)
	}
	hasGroups(t, p)
}

// hasGroups checks UriGroup and GroupFor of a valid policy.
func hasGroups(t *testing.T, p impl.Policy) {
	t.Helper()
	uri, uriCode := impl.Group{}, impl.ErrNone
	if len(p.Uris) > 0 {
		uri, uriCode = group("uri", 100), impl.OK
	}
	for i, url := range p.Uris {
		uri.Targets = append(uri.Targets, target(url, i+1, 1))
	}
	g, code := impl.UriGroup(p)
	if !sameGroup(g, uri) || code != uriCode {
		t.Errorf("UriGroup of %s = %s, %d", briefPolicy(p), briefGroup(g), code)
	}
	if impl.GroupOK(g) != (code == impl.OK) {
		t.Errorf("UriGroup of %s: the group %s has code %d", briefPolicy(p), briefGroup(g), code)
	}
	name, nameCode := p.ReportTo, impl.OK
	switch {
	case name == "" && len(p.Uris) > 0:
		name = "uri"
	case name == "":
		nameCode = impl.ErrNone
	}
	if s, code := impl.GroupFor(p); s != name || code != nameCode {
		t.Errorf("GroupFor of %s = %q, %d, not %q, %d", briefPolicy(p), s, code, name, nameCode)
	}
}

// noPolicy checks that every function refuses a policy that is invalid.
func noPolicy(t *testing.T, p impl.Policy) {
	t.Helper()
	if impl.PolicyOK(p) {
		t.Errorf("PolicyOK: %s is invalid", briefPolicy(p))
	}
	if s, code := impl.PolicyText(p); s != "" || code != impl.ErrBad {
		t.Errorf("PolicyText(%s) = %.200q, %d", briefPolicy(p), s, code)
	}
	if g, code := impl.UriGroup(p); !isNoGroup(g) || code != impl.ErrBad {
		t.Errorf("UriGroup(%s) = %s, %d", briefPolicy(p), briefGroup(g), code)
	}
	if s, code := impl.GroupFor(p); s != "" || code != impl.ErrBad {
		t.Errorf("GroupFor(%s) = %.200q, %d", briefPolicy(p), s, code)
	}
}

func readsPolicy(t *testing.T, text string, want impl.Policy) {
	t.Helper()
	if p, code := impl.ReadPolicy(text); !samePolicy(p, want) || code != impl.OK {
		t.Errorf("ReadPolicy(%.300q) = %s, %d, not %s", text, briefPolicy(p), code, briefPolicy(want))
	}
	isPolicy(t, want)
}

func refusesPolicy(t *testing.T, text string, want int) {
	t.Helper()
	if p, code := impl.ReadPolicy(text); !isNoPolicy(p) || code != want {
		t.Errorf("ReadPolicy(%.300q) = %s, %d, not %d", text, briefPolicy(p), code, want)
	}
}

func TestPolicyConstants(t *testing.T) {
	if impl.MaxRules != 8 {
		t.Error("MaxRules is wrong")
	}
}

func TestPolicies(t *testing.T) {
	for _, v := range []struct {
		text string
		want impl.Policy
	}{
		{"default-src 'self'", plain(rule("default-src", "'self'"))},
		{"default-src 'self' https://a.example *.b; img-src *", plain(rule("default-src", "'self'", "https://a.example", "*.b"), rule("img-src", "*"))},
		{"img-src *;default-src 'none'", plain(rule("img-src", "*"), rule("default-src", "'none'"))},
		{"upgrade-insecure-request", plain(rule("upgrade-insecure-request"))},
		// This name has 25 bytes.
		{"upgrade-insecure-requests", impl.Policy{}},
		{"a", plain(rule("a"))},
		{"a b", plain(rule("a", "b"))},
		{"a a", plain(rule("a", "a"))},
		{"a b b a", plain(rule("a", "b", "b", "a"))},
		{"a B b", plain(rule("a", "B", "b"))},
		{"a;b;c", plain(rules('a', 3)...)},
		{"c;b;a", plain(rule("c"), rule("b"), rule("a"))},
		{"script-src 'sha256-abc=' 'nonce-A1' 'unsafe-inline'", plain(rule("script-src", "'sha256-abc='", "'nonce-A1'", "'unsafe-inline'"))},
		{"a b,c d=e \"f\" g:h", plain(rule("a", "b,c", "d=e", `"f"`, "g:h"))},
		{"default-src; report-to csp", impl.Policy{ReportTo: "csp", Rules: []impl.Rule{rule("default-src"), rule("report-to", "csp")}}},
		{"report-uri https://R.test/r#f; default-src 'self'", impl.Policy{Uris: []string{"https://r.test/r"}, Rules: []impl.Rule{rule("report-uri", "https://R.test/r#f"), rule("default-src", "'self'")}}},
		{"report-uri http://x; report-to csp", impl.Policy{ReportTo: "csp", Uris: []string{"http://x/"}, Rules: []impl.Rule{rule("report-uri", "http://x"), rule("report-to", "csp")}}},
		// Neither is the name of the other rule.
		{"reportto csp; report-to- csp; report--to csp; xreport-to csp; to csp; report csp", plain(rule("reportto", "csp"), rule("report-to-", "csp"), rule("report--to", "csp"), rule("xreport-to", "csp"), rule("to", "csp"), rule("report", "csp"))},
		{"report-urix https://x/; report-url https://x/; uri https://x/", plain(rule("report-urix", "https://x/"), rule("report-url", "https://x/"), rule("uri", "https://x/"))},
		{"a report-to csp; b report-uri https://x/", plain(rule("a", "report-to", "csp"), rule("b", "report-uri", "https://x/"))},
		{"report-to report-uri https://x/", plain(rule("report-to", "report-uri", "https://x/"))},
		{"report-uri report-to csp", plain(rule("report-uri", "report-to", "csp"))},
	} {
		readsPolicy(t, v.text, v.want)
	}
}

// TestEmptyPolicies reads texts without a word.
func TestEmptyPolicies(t *testing.T) {
	for _, text := range []string{
		"", " ", "\t", ";", " ;", "; ", ";;", " ; ", "\t;\t", ";\t;", " \t ; \t ;; \t", strings.Repeat(";", 100), strings.Repeat(" ;\t", 100),
		strings.Repeat(" ", impl.MaxText), strings.Repeat("\t", impl.MaxText), strings.Repeat(";", impl.MaxText), strings.Repeat("; ", impl.MaxText/2), strings.Repeat("\t;", impl.MaxText/2),
	} {
		readsPolicy(t, text, impl.Policy{})
	}
	isPolicy(t, impl.Policy{Uris: []string{}, Rules: []impl.Rule{}})
	isPolicy(t, plain(impl.Rule{Name: "a", Words: []string{}}))
}

// TestEmptyParts puts parts without a word before, between and behind others.
func TestEmptyParts(t *testing.T) {
	want := impl.Policy{ReportTo: "csp", Uris: []string{"https://x/"}, Rules: []impl.Rule{rule("a", "b", "c"), rule("report-to", "csp"), rule("report-uri", "https://x")}}
	for _, empty := range []string{"", ";", " ;", ";\t", "; ; ;", "\t\t;\t\t", strings.Repeat(";", 20), strings.Repeat(" ;", 1000)} {
		readsPolicy(t, empty+";a b c;report-to csp;report-uri https://x", want)
		readsPolicy(t, "a b c;"+empty+";report-to csp;report-uri https://x", want)
		readsPolicy(t, "a b c;report-to csp;"+empty+";report-uri https://x", want)
		readsPolicy(t, "a b c;report-to csp;report-uri https://x;"+empty, want)
		readsPolicy(t, empty+";"+"a b c;"+empty+";report-to csp;"+empty+";report-uri https://x;"+empty+";", want)
	}
}

func TestPolicySpaces(t *testing.T) {
	want := impl.Policy{ReportTo: "csp", Rules: []impl.Rule{rule("a", "b", "c"), rule("report-to", "csp", "d")}}
	spaces := []string{" ", "\t", "  ", " \t", "\t ", "\t\t", " \t\t ", strings.Repeat(" \t", 100)}
	for _, within := range spaces {
		for _, end := range append(spaces, "") {
			readsPolicy(t, end+"a"+within+"b"+within+"c"+end+";"+end+"report-to"+within+"csp"+within+"d"+end, want)
		}
	}
	// All other bytes are parts of words.
	for _, c := range []string{"\n", "\r", "\v", "\f", "\x00", "\u00a0", "\u2003", "\u0085", "\x85", "\xa0", ",", "/"} {
		readsPolicy(t, "a b"+c+"c", plain(rule("a", "b"+c+"c")))
		readsPolicy(t, "a "+c, plain(rule("a", c)))
		readsPolicy(t, "a"+c+"b", impl.Policy{})
		readsPolicy(t, c+"a b", impl.Policy{})
		readsPolicy(t, c, impl.Policy{})
		readsPolicy(t, "a b;"+c+";c", plain(rule("a", "b"), rule("c")))
		readsPolicy(t, "report-to csp"+c, plain(rule("report-to", "csp"+c)))
	}
}

func TestRuleNames(t *testing.T) {
	long := strings.Repeat("abcdefgh", 3)
	for _, name := range []string{"a", "z", "ab", "a-", "a--", "a-b", "z-z-z", "report-to", "report-uri", "default-src", long, "a" + strings.Repeat("-", 23)} {
		isPolicy(t, plain(rule(name)))
		readsPolicy(t, name, plain(rule(name)))
		if !strings.HasPrefix(name, "report-") {
			readsPolicy(t, "x;"+strings.ToUpper(name)+" B c", plain(rule("x"), rule(name, "B", "c")))
		}
	}
	for _, name := range []string{
		"-", "--", "-a", "-a-b", "1", "9", "0a", "a1", "a9b", "a-1", "_", "a_b", "a.b", "a:b", "a=", "=", "'a'", "\"a\"", "*", "a,b", "a/b",
		"é", "aé", "\u212a", "a\u212a", "\u017f", "\x80", "a\x80", "a\x00", "\x00", "a\n", "`", "{", "a`", "a{", "@", "[", "a@", "a[",
		long + "a", long + "-", strings.Repeat("a", 25), strings.Repeat("a", 100),
	} {
		noPolicy(t, plain(rule(name)))
		noPolicy(t, plain(rule(name, "b")))
		noPolicy(t, plain(rule("x"), rule(name)))
		noPolicy(t, plain(rule(name), rule("x")))
		for _, name := range []string{name, upper(name)} {
			readsPolicy(t, name, impl.Policy{})
			readsPolicy(t, name+" b", impl.Policy{})
			readsPolicy(t, "x y;"+name+" b;z", plain(rule("x", "y"), rule("z")))
			readsPolicy(t, "x y;z;"+name, plain(rule("x", "y"), rule("z")))
		}
	}
	for _, name := range []string{"", " ", "A", "aB", "Report-To", "a b", " a", "a ", "a\t", ";", "a;", "a;b", strings.Repeat("a", impl.MaxText), strings.Repeat("a", impl.MaxText+1), strings.Repeat("A", 24)} {
		noPolicy(t, plain(rule(name)))
		noPolicy(t, plain(rule(name, "b")))
		noPolicy(t, plain(rule("x"), rule(name)))
	}
}

// upper changes the letters a to z only; strings.ToUpper makes letters of
// other bytes.
func upper(t string) string {
	b := []byte(t)
	for i, c := range b {
		if 'a' <= c && c <= 'z' {
			b[i] = c - 'a' + 'A'
		}
	}
	return string(b)
}

// TestRuleNameBytes sets each byte of a name to every byte.
func TestRuleNameBytes(t *testing.T) {
	for i := range 3 {
		for c := range 256 {
			name := []byte("a-z")
			name[i] = byte(c)
			isLetter := 'a' <= c && c <= 'z'
			p := plain(rule(string(name), "w"))
			if isLetter || c == '-' && i > 0 {
				isPolicy(t, p)
			} else {
				noPolicy(t, p)
			}
		}
	}
}

// TestCaseOfRuleNames: names that are written otherwise are the same.
func TestCaseOfRuleNames(t *testing.T) {
	a := plain(rule("abc", "W"))
	for _, name := range []string{"abc", "Abc", "aBc", "abC", "ABC", "aBC"} {
		readsPolicy(t, name+" W", a)
		for _, again := range []string{"abc", "aBc", "ABC"} {
			readsPolicy(t, name+" W;"+again+" X", a)
			readsPolicy(t, name+" W;"+again, a)
		}
	}
	for _, name := range []string{"REPORT-TO", "Report-To", "report-tO", "rEPORT-TO"} {
		readsPolicy(t, name+" Csp", impl.Policy{ReportTo: "Csp", Rules: []impl.Rule{rule("report-to", "Csp")}})
		noPolicy(t, impl.Policy{ReportTo: "Csp", Rules: []impl.Rule{rule(name, "Csp")}})
	}
	for _, name := range []string{"REPORT-URI", "Report-Uri", "report-urI"} {
		readsPolicy(t, name+" HTTP://X/Y", impl.Policy{Uris: []string{"http://x/Y"}, Rules: []impl.Rule{rule("report-uri", "HTTP://X/Y")}})
		noPolicy(t, impl.Policy{Uris: []string{"http://x/Y"}, Rules: []impl.Rule{rule(name, "HTTP://X/Y")}})
	}
}

// TestRulesThatOccurTwice: only the first part with a name counts, whatever the
// later ones are.
func TestRulesThatOccurTwice(t *testing.T) {
	tooMany := strings.Join(words(9), " ")
	for _, later := range []string{"a", "a b", "A b", "a w", "a " + tooMany, "A " + tooMany, "a;a;a", "a x;A y;a z", "a " + tooMany + ";a x;a " + tooMany, "a\t" + strings.Repeat("x ", 10000)} {
		readsPolicy(t, "a w;"+later, plain(rule("a", "w")))
		readsPolicy(t, "a;"+later, plain(rule("a")))
		readsPolicy(t, "a w;b;"+later, plain(rule("a", "w"), rule("b")))
		readsPolicy(t, "b;A w;"+later+";c", plain(rule("b"), rule("a", "w"), rule("c")))
	}
	csp, none := impl.Policy{ReportTo: "csp", Rules: []impl.Rule{rule("report-to", "csp")}}, plain(rule("report-to", "1"))
	for _, later := range []string{"report-to", "report-to alt", "Report-To alt", "report-to 1", "report-to " + tooMany, "report-to alt;report-to alt"} {
		readsPolicy(t, "report-to csp;"+later, csp)
		readsPolicy(t, "report-to 1;"+later, none)
		readsPolicy(t, "report-to;"+later, plain(rule("report-to")))
	}
	x, noUrl := impl.Policy{Uris: []string{"https://x/"}, Rules: []impl.Rule{rule("report-uri", "https://x")}}, plain(rule("report-uri", "x"))
	for _, later := range []string{"report-uri", "report-uri https://y", "REPORT-URI https://y", "report-uri https://x https://y", "report-uri x", "report-uri " + tooMany, "report-uri https://y;report-uri https://z"} {
		readsPolicy(t, "report-uri https://x;"+later, x)
		readsPolicy(t, "report-uri x;"+later, noUrl)
		readsPolicy(t, "report-uri;"+later, plain(rule("report-uri")))
	}
	// A part whose name is invalid defines no name.
	readsPolicy(t, "report-to1 a;report-to csp", csp)
	readsPolicy(t, "-report-uri https://y;report-uri https://x", x)
	for i := 1; i < 8; i++ {
		for j := range i {
			list := rules('a', 8)
			list[i].Name = list[j].Name
			noPolicy(t, plain(list...))
			list[i].Words = []string{"w"}
			noPolicy(t, plain(list...))
		}
	}
	noPolicy(t, impl.Policy{ReportTo: "csp", Rules: []impl.Rule{rule("report-to", "csp"), rule("report-to", "csp")}})
	noPolicy(t, impl.Policy{Uris: []string{"https://x/"}, Rules: []impl.Rule{rule("report-uri", "https://x"), rule("report-uri")}})
}

// joinRules returns a text of rules.
func joinRules(list []impl.Rule) string {
	var parts []string
	for _, r := range list {
		parts = append(parts, strings.Join(append([]string{r.Name}, r.Words...), " "))
	}
	return strings.Join(parts, ";")
}

func TestRuleCounts(t *testing.T) {
	for n := range 9 {
		readsPolicy(t, joinRules(rules('a', n)), plain(rules('a', n)...))
	}
	for _, n := range []int{9, 10, 26} {
		refusesPolicy(t, joinRules(rules('a', n)), impl.ErrMany)
		noPolicy(t, plain(rules('a', n)...))
	}
	for _, n := range []int{9, 100, impl.MaxList, impl.MaxList + 1, 1 << 20} {
		noPolicy(t, plain(make([]impl.Rule, n)...))
		noPolicy(t, plain(slices.Repeat([]impl.Rule{rule("a")}, n)...))
	}
	// Rules count as such, whatever they mean.
	eight := append(rules('a', 7), rule("report-to", "csp"))
	readsPolicy(t, joinRules(eight), impl.Policy{ReportTo: "csp", Rules: eight})
	refusesPolicy(t, joinRules(rules('a', 8))+";report-to csp", impl.ErrMany)
	refusesPolicy(t, joinRules(rules('a', 8))+";report-to", impl.ErrMany)
	refusesPolicy(t, "report-uri;"+joinRules(rules('a', 8)), impl.ErrMany)
	noPolicy(t, impl.Policy{ReportTo: "csp", Rules: append(rules('a', 8), rule("report-to", "csp"))})
}

// TestIgnoredRules puts parts that are ignored at every place of a policy that
// has as many rules as it may have, or one more.
func TestIgnoredRules(t *testing.T) {
	tooMany := strings.Join(words(9), " ")
	for _, ignored := range []string{"", " \t", "1", "-i", "i_j w", "1 " + tooMany, strings.Repeat("i", 25), strings.Repeat("i", 25) + " " + tooMany, "\x80", "report-to1 csp", "report-uri: https://y/", strings.Repeat("1;2;3;", 1000), strings.Repeat(";", 1000)} {
		for i := range 9 {
			list := rules('a', 8)
			readsPolicy(t, joinRules(list[:i])+";"+ignored+";"+joinRules(list[i:]), plain(list...))
			list = rules('a', 9)
			refusesPolicy(t, joinRules(list[:i])+";"+ignored+";"+joinRules(list[i:]), impl.ErrMany)
		}
	}
	for i := range 8 {
		for _, ignored := range []string{"a", "A", "a w", "A " + tooMany, "a;a;A"} {
			list := rules('a', 8)
			readsPolicy(t, joinRules(list[:i+1])+";"+ignored+";"+joinRules(list[i+1:]), plain(list...))
			list = rules('a', 9)
			refusesPolicy(t, joinRules(list[:i+1])+";"+ignored+";"+joinRules(list[i+1:]), impl.ErrMany)
		}
	}
	readsPolicy(t, strings.Repeat(joinRules(rules('a', 8))+";", 1000), plain(rules('a', 8)...))
	readsPolicy(t, joinRules(rules('a', 8))+";"+strings.ToUpper(joinRules(rules('a', 8))), plain(rules('a', 8)...))
}

func TestWordCounts(t *testing.T) {
	for n := range 9 {
		for i := range 8 {
			list := rules('a', 8)
			list[i].Words = words(n)
			readsPolicy(t, joinRules(list), plain(list...))
		}
	}
	for _, n := range []int{9, 10, 100, 5000} {
		for i := range 8 {
			list := rules('a', 8)
			list[i].Words = words(n)
			refusesPolicy(t, joinRules(list), impl.ErrMany)
			noPolicy(t, plain(list...))
			list[i].Words = slices.Repeat([]string{"w"}, n)
			refusesPolicy(t, joinRules(list), impl.ErrMany)
			noPolicy(t, plain(list...))
		}
	}
	all := rules('a', 8)
	for i := range all {
		all[i].Words = words(8)
	}
	readsPolicy(t, joinRules(all), plain(all...))
	for _, n := range []int{9, 1 << 20} {
		noPolicy(t, plain(rule("a", make([]string, n)...)))
	}
	refusesPolicy(t, "report-to csp 2 3 4 5 6 7 8 9", impl.ErrMany)
	refusesPolicy(t, "report-uri "+strings.Repeat("https://x/ ", 9), impl.ErrMany)
	refusesPolicy(t, "report-uri "+strings.Repeat("x ", 9), impl.ErrMany)
	readsPolicy(t, "report-uri "+strings.Repeat("https://x/ ", 8), impl.Policy{Uris: []string{"https://x/"}, Rules: []impl.Rule{rule("report-uri", slices.Repeat([]string{"https://x/"}, 8)...)}})
	// Rules with too many words are not ignored, and no later rule repairs them.
	refusesPolicy(t, "a 1 2 3 4 5 6 7 8 9;a", impl.ErrMany)
	refusesPolicy(t, "b;a 1 2 3 4 5 6 7 8 9;a 1", impl.ErrMany)
	refusesPolicy(t, "report-to csp;a 1 2 3 4 5 6 7 8 9", impl.ErrMany)
}

// TestWords: words are any bytes but spaces, tabs and semicolons.
func TestWords(t *testing.T) {
	for c := range 256 {
		separates := c == ' ' || c == '\t' || c == ';'
		for _, word := range []string{string([]byte{byte(c)}), "a" + string([]byte{byte(c)}), string([]byte{byte(c)}) + "a", "ab" + string([]byte{byte(c), byte(c)}) + "cdefghij", "\x80" + string([]byte{byte(c)}) + "\xff"} {
			for _, p := range []impl.Policy{plain(rule("a", word)), plain(rule("x"), rule("a", "v", word, "w")), plain(rule("a", "1", "2", "3", "4", "5", "6", "7", word))} {
				if separates {
					noPolicy(t, p)
				} else {
					readsPolicy(t, joinRules(p.Rules), p)
				}
			}
		}
	}
	for i := range 8 {
		for _, bad := range []string{"", " ", "\t", ";", "a b", "a ", " a", "a;b", "a;", ";a", "a\tb", strings.Repeat("a", 100) + " ", strings.Repeat("\xff", 100) + ";"} {
			r := rule("a", words(8)...)
			r.Words[i] = bad
			noPolicy(t, plain(r))
			noPolicy(t, plain(rule("b"), r))
		}
	}
	// Chapter 5 does not limit the length of a word.
	for _, n := range []int{100, 101, 200, impl.MaxText - 2, impl.MaxText - 1, impl.MaxText, impl.MaxText + 1, 1 << 20} {
		isPolicy(t, plain(rule("a", strings.Repeat("w", n))))
		isPolicy(t, plain(rule("report-to", strings.Repeat("w", n))))
		isPolicy(t, plain(rule("report-uri", "https://x/"+strings.Repeat("w", n))))
	}
}

func TestReportToRule(t *testing.T) {
	for _, name := range []string{"csp", "a", "Z", "_", "default", "uri", "report", "a9", "abcdefghijkl", "_23456789012"} {
		for _, more := range []string{"", " alt", " 1", " csp alt", " 2 3 4 5 6 7 8"} {
			list := []impl.Rule{rule("report-to", strings.Fields(name+more)...)}
			readsPolicy(t, "report-to "+name+more, impl.Policy{ReportTo: name, Rules: list})
			for _, wrong := range []string{"", "x", name + "x", strings.ToUpper(name) + "_", "uri_", "report-to"} {
				noPolicy(t, impl.Policy{ReportTo: wrong, Rules: list})
			}
		}
		// It is the first rule with this name, wherever that is.
		list := []impl.Rule{rule("a", "x"), rule("b"), rule("report-to", name, "y"), rule("report-tox", "z")}
		readsPolicy(t, joinRules(list), impl.Policy{ReportTo: name, Rules: list})
		noPolicy(t, impl.Policy{ReportTo: "x", Rules: list})
		noPolicy(t, impl.Policy{ReportTo: "y", Rules: list})
		noPolicy(t, impl.Policy{ReportTo: "z", Rules: list})
		noPolicy(t, plain(list...))
		noPolicy(t, impl.Policy{ReportTo: name})
		noPolicy(t, impl.Policy{ReportTo: name, Rules: rules('a', 3)})
		noPolicy(t, impl.Policy{ReportTo: name, Rules: []impl.Rule{rule("report-uri", name)}})
		noPolicy(t, impl.Policy{ReportTo: name, Rules: []impl.Rule{rule("report-to")}})
		noPolicy(t, impl.Policy{ReportTo: name, Rules: []impl.Rule{rule("a", "report-to", name)}})
	}
	isPolicy(t, plain(rule("report-to")))
	for _, first := range []string{"1", "9a", "a-b", "a.b", "abcdefghijklm", "'csp'", "\"csp\"", "csp,", "é", "\x80", "csp\x00", "-", "https://x/"} {
		for _, more := range []string{"", " csp", " a b", " a b c d e f g"} {
			list := []impl.Rule{rule("report-to", strings.Split(first+more, " ")...)}
			readsPolicy(t, "report-to "+first+more, plain(list...))
			noPolicy(t, impl.Policy{ReportTo: first, Rules: list})
			noPolicy(t, impl.Policy{ReportTo: "csp", Rules: list})
			noPolicy(t, impl.Policy{ReportTo: "a", Rules: list})
		}
	}
}

// readsUris checks what the words of the rule report-uri mean, and that no
// other Uris are valid with this rule.
func readsUris(t *testing.T, list []string, want ...string) {
	t.Helper()
	uris := rule("report-uri", list...)
	readsPolicy(t, joinRules([]impl.Rule{uris}), impl.Policy{Uris: want, Rules: []impl.Rule{uris}})
	p := impl.Policy{ReportTo: "csp", Uris: want, Rules: []impl.Rule{rule("a", "https://a/"), uris, rule("report-to", "csp", "https://b/")}}
	readsPolicy(t, joinRules(p.Rules), p)
	others := [][]string{append(slices.Clone(want), "https://other/"), append([]string{"https://other/"}, want...), append(slices.Clone(want), "")}
	for i, url := range want {
		others = append(others, slices.Delete(slices.Clone(want), i, i+1), slices.Insert(slices.Clone(want), i, url), append(slices.Clone(want[:i:i]), "https://other/"), slices.Concat(want[:i], []string{url + "x"}, want[i+1:]))
		for j := range i {
			swapped := slices.Clone(want)
			swapped[i], swapped[j] = swapped[j], swapped[i]
			others = append(others, swapped)
		}
	}
	for _, other := range others {
		noPolicy(t, impl.Policy{Uris: other, Rules: []impl.Rule{uris}})
		noPolicy(t, impl.Policy{ReportTo: p.ReportTo, Uris: other, Rules: p.Rules})
	}
}

// withoutSpace returns the texts that may be words.
func withoutSpace(texts []string) []string {
	var list []string
	for _, s := range texts {
		if s != "" && !strings.ContainsAny(s, " \t;") {
			list = append(list, s)
		}
	}
	return list
}

// TestReportUriWords reads words that are their own clean URLs, have other
// ones, or none.
func TestReportUriWords(t *testing.T) {
	for _, s := range withoutSpace(cleanTexts) {
		readsUris(t, []string{s}, s)
		readsUris(t, []string{s, s}, s)
		readsUris(t, []string{"x", s, "https://last/"}, s, "https://last/")
	}
	for _, v := range uncleanTexts {
		readsUris(t, []string{v.text}, v.clean)
		readsUris(t, []string{v.text, v.clean}, v.clean)
		readsUris(t, []string{v.clean, v.text}, v.clean)
		readsUris(t, []string{v.text, "https://last/", v.text, v.clean}, v.clean, "https://last/")
		noPolicy(t, impl.Policy{Uris: []string{v.text}, Rules: []impl.Rule{rule("report-uri", v.text)}})
		noPolicy(t, impl.Policy{Uris: []string{v.clean, v.text}, Rules: []impl.Rule{rule("report-uri", v.clean, v.text)}})
	}
	for _, s := range withoutSpace(noCleanTexts) {
		readsUris(t, []string{s})
		readsUris(t, []string{s, "https://last/", s}, "https://last/")
		noPolicy(t, impl.Policy{Uris: []string{s}, Rules: []impl.Rule{rule("report-uri", s)}})
	}
	readsUris(t, nil)
	readsUris(t, []string{"x", "y", "data:z", "1", "2", "3", "4", "5"})
	readsUris(t, []string{"HTTPS://X", "https://x:443", "https://x/#f", "https://x#g", "https://@x", "https://x/?", "http://x", "http://x:80/"}, "https://x/", "https://x/?", "http://x/")
}

// TestUriCounts: of the clean URLs the first ones count, each once.
func TestUriCounts(t *testing.T) {
	urls := []string{"https://a/", "https://b/", "https://c/", "https://d/", "https://e/", "https://f/", "https://g/", "https://h/"}
	for n := range 9 {
		readsUris(t, urls[:n], urls[:min(n, 4)]...)
	}
	a, b, c, d, e := urls[0], urls[1], urls[2], urls[3], urls[4]
	readsUris(t, []string{a, a, a, a, b, c, d, e}, a, b, c, d)
	readsUris(t, []string{a, b, a, c, b, d, e, a}, a, b, c, d)
	readsUris(t, []string{"x", a, "x", b, "x", c, "x", d}, a, b, c, d)
	readsUris(t, []string{"x", "y", "z", "1", a, b, c, d}, a, b, c, d)
	readsUris(t, []string{"x", "y", "z", "1", "2", a, b, c}, a, b, c)
	readsUris(t, []string{e, d, c, b, a}, e, d, c, b)
	readsUris(t, []string{a, b, c, d, a, b, c, d}, a, b, c, d)
	readsUris(t, []string{a, b, c, "https://A#x", "https://A#y", d, e}, a, b, c, d)
	readsUris(t, []string{a, b, c, e, d}, a, b, c, e)
	all := rule("report-uri", urls...)
	for n := range 9 {
		p := impl.Policy{Uris: urls[:n], Rules: []impl.Rule{all}}
		if n == 4 {
			isPolicy(t, p)
		} else {
			noPolicy(t, p)
		}
	}
	noPolicy(t, impl.Policy{Uris: urls[1:5], Rules: []impl.Rule{all}})
	noPolicy(t, impl.Policy{Uris: urls[4:], Rules: []impl.Rule{all}})
	noPolicy(t, impl.Policy{Uris: urls[:1]})
	noPolicy(t, impl.Policy{Uris: urls[:1], Rules: []impl.Rule{rule("a", urls...)}})
	noPolicy(t, impl.Policy{Uris: urls[:1], Rules: []impl.Rule{rule("report-to", urls...)}})
	noPolicy(t, impl.Policy{Uris: make([]string, 1)})
	noPolicy(t, impl.Policy{Uris: make([]string, 1<<20)})
	noPolicy(t, impl.Policy{Uris: make([]string, 4), Rules: []impl.Rule{all}})
}

// TestGroups names the results themselves: with and without a name, with and
// without URLs.
func TestGroups(t *testing.T) {
	two := group("uri", 100, target("https://x/", 1, 1), target("http://y/", 2, 1))
	four := group("uri", 100, target("https://a/", 1, 1), target("https://b/", 2, 1), target("https://c/", 3, 1), target("https://d/", 4, 1))
	for _, v := range []struct {
		text, name string
		nameCode   int
		uri        impl.Group
		uriCode    int
	}{
		{"", "", impl.ErrNone, impl.Group{}, impl.ErrNone},
		{"default-src 'self'", "", impl.ErrNone, impl.Group{}, impl.ErrNone},
		{"report-to", "", impl.ErrNone, impl.Group{}, impl.ErrNone},
		{"report-to 1 csp", "", impl.ErrNone, impl.Group{}, impl.ErrNone},
		{"report-uri", "", impl.ErrNone, impl.Group{}, impl.ErrNone},
		{"report-uri data:x y", "", impl.ErrNone, impl.Group{}, impl.ErrNone},
		{"report-to 1;report-uri x", "", impl.ErrNone, impl.Group{}, impl.ErrNone},
		{"report-to csp", "csp", impl.OK, impl.Group{}, impl.ErrNone},
		{"report-to csp;report-uri x", "csp", impl.OK, impl.Group{}, impl.ErrNone},
		{"report-to uri", "uri", impl.OK, impl.Group{}, impl.ErrNone},
		{"report-uri https://x http://y", "uri", impl.OK, two, impl.OK},
		{"report-to;report-uri https://x http://y", "uri", impl.OK, two, impl.OK},
		{"report-to 1;report-uri https://x http://y", "uri", impl.OK, two, impl.OK},
		{"report-to csp;report-uri https://x http://y", "csp", impl.OK, two, impl.OK},
		{"report-uri x https://x y http://y https://X;report-to uri", "uri", impl.OK, two, impl.OK},
		{"report-uri https://a https://b https://c https://d https://e", "uri", impl.OK, four, impl.OK},
	} {
		p, code := impl.ReadPolicy(v.text)
		if code != impl.OK {
			t.Errorf("ReadPolicy(%q): code %d", v.text, code)
		}
		isPolicy(t, p)
		if s, code := impl.GroupFor(p); s != v.name || code != v.nameCode {
			t.Errorf("GroupFor of %q = %q, %d, not %q, %d", v.text, s, code, v.name, v.nameCode)
		}
		if g, code := impl.UriGroup(p); !sameGroup(g, v.uri) || code != v.uriCode {
			t.Errorf("UriGroup of %q = %+v, %d, not %+v, %d", v.text, g, code, v.uri, v.uriCode)
		}
	}
}

func TestLongPolicies(t *testing.T) {
	want := impl.Policy{ReportTo: "csp", Uris: []string{"https://x/"}, Rules: []impl.Rule{rule("report-to", "csp"), rule("report-uri", "https://x/")}}
	text := joinRules(want.Rules)
	for _, fill := range []string{" ", "\t", ";"} {
		more := strings.Repeat(fill, impl.MaxText-len(text))
		readsPolicy(t, text+more, want)
		readsPolicy(t, more+text, want)
		refusesPolicy(t, text+more+fill, impl.ErrLong)
		refusesPolicy(t, fill+more+text, impl.ErrLong)
	}
	readsPolicy(t, text+";"+strings.Repeat("1", impl.MaxText-len(text)-1), want)
	refusesPolicy(t, text+";"+strings.Repeat("1", impl.MaxText-len(text)), impl.ErrLong)
	readsPolicy(t, "a "+strings.Repeat("w", impl.MaxText-2), plain(rule("a", strings.Repeat("w", impl.MaxText-2))))
	refusesPolicy(t, "a "+strings.Repeat("w", impl.MaxText-1), impl.ErrLong)
	refusesPolicy(t, "a "+strings.Repeat("w ", impl.MaxText/2-1), impl.ErrMany)
	refusesPolicy(t, "a "+strings.Repeat("w ", impl.MaxText/2), impl.ErrLong)
	readsPolicy(t, strings.Repeat("a;", impl.MaxText/2), plain(rule("a")))
	refusesPolicy(t, strings.Repeat("a;", impl.MaxText/2+1), impl.ErrLong)
	readsPolicy(t, strings.Repeat("a", impl.MaxText), impl.Policy{})
	for _, s := range []string{" ", ";", "a", "a;", "a ", "\xff", "1;"} {
		refusesPolicy(t, strings.Repeat(s, 1<<20), impl.ErrLong)
	}
	// ErrLong precedes ErrMany.
	refusesPolicy(t, joinRules(rules('a', 26))+strings.Repeat(";", impl.MaxText), impl.ErrLong)
}
