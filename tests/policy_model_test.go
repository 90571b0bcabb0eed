package tests

import (
	"math/rand"
	"regexp"
	"slices"
	"sort"
	"strings"
	"testing"

	"loop.example/g00779/impl"
)

// The model reads chapter 5 a second time. Where the program reads part after
// part and knows the names so far, the model goes back from the end, so that
// the first part with a name is the one that stays. A policy is valid if it is
// what the model reads from its text.
var (
	modelPolicyWord = regexp.MustCompile(`[^ \t]+`)
	modelRuleName   = regexp.MustCompile(`^[A-Za-z][-A-Za-z]{0,23}$`)
	modelToName     = regexp.MustCompile(`^[A-Za-z_][0-9A-Za-z_]{0,11}$`)
)

// modelPolicy has no limit for the length of t.
func modelPolicy(t string) (impl.Policy, int) {
	parts := strings.Split(t, ";")
	places := map[string]int{}
	for i := len(parts) - 1; i >= 0; i-- {
		if name := modelPolicyWord.FindString(parts[i]); modelRuleName.MatchString(name) {
			places[modelLower(name)] = i
		}
	}
	if len(places) > 8 {
		return impl.Policy{}, impl.ErrMany
	}
	var p impl.Policy
	for name, i := range places {
		found := modelPolicyWord.FindAllString(parts[i], -1)[1:]
		if len(found) > 8 {
			return impl.Policy{}, impl.ErrMany
		}
		p.Rules = append(p.Rules, rule(name, found...))
	}
	sort.Slice(p.Rules, func(i, j int) bool { return places[p.Rules[i].Name] < places[p.Rules[j].Name] })
	for _, r := range p.Rules {
		switch {
		case r.Name == "report-to" && len(r.Words) > 0:
			p.ReportTo = modelToName.FindString(r.Words[0])
		case r.Name == "report-uri":
			p.Uris = modelUris(r.Words)
		}
	}
	return p, impl.OK
}

func modelUris(list []string) []string {
	var uris []string
	for _, word := range list {
		if url := modelClean(word); url != "" && !slices.Contains(uris, url) {
			uris = append(uris, url)
		}
	}
	return uris[:min(len(uris), 4)]
}

func modelPolicyText(p impl.Policy) string {
	var b strings.Builder
	for i, r := range p.Rules {
		if i > 0 {
			b.WriteString("; ")
		}
		b.WriteString(r.Name)
		for _, word := range r.Words {
			b.WriteString(" ")
			b.WriteString(word)
		}
	}
	return b.String()
}

// modelPolicyOK: what makes a policy invalid is not read back from its text. An
// empty word vanishes, a space makes two words of one, and a name that is in
// upper case or occurs already does not return.
func modelPolicyOK(p impl.Policy) bool {
	again, code := modelPolicy(modelPolicyText(p))
	return code == impl.OK && samePolicy(again, p)
}

// checkPolicy compares the program with the model, and returns the code.
func checkPolicy(t *testing.T, s string) int {
	t.Helper()
	want, wantCode := modelPolicy(s)
	p, code := impl.ReadPolicy(s)
	if !samePolicy(p, want) || code != wantCode {
		t.Errorf("ReadPolicy(%.300q) = %s, %d, not %s, %d", s, briefPolicy(p), code, briefPolicy(want), wantCode)
	}
	if code == impl.OK {
		isPolicy(t, p)
	}
	return code
}

// TestPoliciesInEveryOrder reads all policies of up to five of these parts.
func TestPoliciesInEveryOrder(t *testing.T) {
	parts := []string{"", "a", "A b", "1 a", "report-to csp", "Report-To 1 alt", "report-uri https://x", "REPORT-URI x https://Y https://y"}
	policies := [][]string{nil}
	for range 5 {
		var longer [][]string
		for _, p := range policies {
			for _, part := range parts {
				longer = append(longer, append(slices.Clone(p), part))
			}
		}
		for _, p := range longer {
			if s := strings.Join(p, ";"); checkPolicy(t, s) != impl.OK {
				t.Fatalf("%q has a policy", s)
			}
		}
		policies = longer
	}
}

// TestUrisInEveryOrder reads all lists of up to six of these words.
func TestUrisInEveryOrder(t *testing.T) {
	lists := []string{"report-uri"}
	for range 6 {
		var longer []string
		for _, list := range lists {
			for _, word := range []string{"https://a/", "HTTPS://A#f", "https://b", "https://c", "https://d", "https://e"} {
				longer = append(longer, list+" "+word)
			}
		}
		for _, list := range longer {
			if checkPolicy(t, list) != impl.OK {
				t.Fatalf("%q has a policy", list)
			}
		}
		lists = longer
	}
}

// randomWord often returns a word of more than one rule.
func randomWord(r *rand.Rand) string {
	switch r.Intn(7) {
	case 0, 1, 2:
		return []string{"csp", "alt", "_", "abcdefghijkl", "abcdefghijklm", "1", "a-b", "'self'", "*", "uri", "report-to", "\x80"}[r.Intn(12)]
	case 3:
		return strings.NewReplacer(" ", "", "\t", "", ";", "").Replace(randomUrlText(r)) + "x"
	case 4:
		b := make([]byte, 1+r.Intn(4))
		for i := range b {
			b[i] = byte(r.Intn(256))
		}
		return string(b)
	}
	return []string{"https://x", "HTTPS://X/", "https://x/#f", "https://y/", "http://z/p?q", "https://v", "https://w:443", "https://w/"}[r.Intn(8)]
}

func randomRuleName(r *rand.Rand) string {
	switch r.Intn(12) {
	case 0:
		return []string{"", "1", "-a", "a_b", "a1", "\xff", "a\n", strings.Repeat("z", 25), "\u212a"}[r.Intn(9)]
	case 1:
		return strings.Repeat(string(rune('a'+r.Intn(26))), 1+r.Intn(25))
	case 2, 3:
		return []string{"Report-To", "REPORT-URI", "A", "Img-Src", "rEport-tO"}[r.Intn(5)]
	}
	return []string{"report-to", "report-uri", "a", "b", "c", "d", "e", "f", "img-src", "default-src", "report", "report-", "to"}[r.Intn(13)]
}

func randomPolicyText(r *rand.Rand) string {
	spaces := []string{" ", " ", " ", "\t", "  ", "\t ", " \t\t "}
	var b strings.Builder
	for range r.Intn(13) {
		if r.Intn(4) == 0 {
			b.WriteString(spaces[r.Intn(len(spaces))])
		}
		b.WriteString(randomRuleName(r))
		count := r.Intn(5)
		if r.Intn(6) == 0 {
			count = 6 + r.Intn(5)
		}
		for range count {
			b.WriteString(spaces[r.Intn(len(spaces))] + randomWord(r))
		}
		b.WriteString([]string{";", ";", "; ", " ;", ";;", " ; ; ", "\t;"}[r.Intn(7)])
	}
	return b.String()
}

func TestModelOfPolicyTexts(t *testing.T) {
	r := rand.New(rand.NewSource(31))
	codes := map[int]int{}
	names, uris := 0, 0
	for range 60000 {
		s := randomPolicyText(r)
		codes[checkPolicy(t, s)]++
		p, _ := impl.ReadPolicy(s)
		names += min(len(p.ReportTo), 1)
		uris += len(p.Uris)
	}
	if codes[impl.OK] < 10000 || codes[impl.ErrMany] < 5000 || names < 2000 || uris < 10000 {
		t.Errorf("codes %v, %d names, %d URLs", codes, names, uris)
	}
}

// TestEveryByteInPolicies replaces, inserts and removes bytes everywhere.
func TestEveryByteInPolicies(t *testing.T) {
	for _, s := range []string{
		"default-src 'self' *; report-to csp alt;\timg-src *; report-uri https://U.test/r#f http://v data:x https://u.test/r",
		"a;b;c;d;e;f;g;h",
		"a;b;c;d;e;f;g;h;a;1",
		"a 1 2 3 4 5 6 7 8;A 1 2 3 4 5 6 7 8 9",
		"abcdefghijklmnopqrstuvwx y; abcdefghijklmnopqrstuvwxy z",
		"Report-To 1 csp;report-to csp;REPORT-URI http://x http://x/ http://X:80 http://x:8 http://y http://z http://w",
		" ; ;\t",
	} {
		for i := 0; i <= len(s); i++ {
			for c := range 256 {
				b := string([]byte{byte(c)})
				checkPolicy(t, s[:i]+b+s[i:])
				if i < len(s) {
					checkPolicy(t, s[:i]+b+s[i+1:])
				}
			}
			checkPolicy(t, s[:i])
			checkPolicy(t, s[i:])
		}
	}
}

func TestAnyBytesInPolicies(t *testing.T) {
	r := rand.New(rand.NewSource(32))
	for range 30000 {
		b := make([]byte, r.Intn(60))
		r.Read(b)
		for i := range b {
			if r.Intn(2) == 0 {
				b[i] = " \t;;aAbB-1"[r.Intn(10)]
			}
		}
		checkPolicy(t, string(b))
		checkPolicy(t, "report-to "+string(b)+"; report-uri https://x "+string(b))
	}
}

// randomPolicy returns a policy that is changed in so many places.
func randomPolicy(r *rand.Rand, changes int) impl.Policy {
	p, _ := modelPolicy(randomPolicyText(r))
	for range changes {
		p = brokenPolicy(r, p)
	}
	return p
}

// brokenPolicy changes p in one place, which need not make it invalid.
func brokenPolicy(r *rand.Rand, p impl.Policy) impl.Policy {
	p.Uris, p.Rules = slices.Clone(p.Uris), slices.Clone(p.Rules)
	url := []string{"https://x/", "https://x", "", "x", "https://y/", "data:x"}[r.Intn(6)]
	switch r.Intn(8) {
	case 0:
		p.ReportTo = []string{"", "csp", "uri", "1", "a b", "CSP"}[r.Intn(6)]
	case 1:
		p.Uris = slices.Insert(p.Uris, r.Intn(len(p.Uris)+1), url)
	case 2:
		if n := len(p.Uris); n > 0 {
			i := r.Intn(n)
			p.Uris = [][]string{p.Uris[:i], p.Uris[i:], slices.Delete(p.Uris, i, i+1)}[r.Intn(3)]
		}
	case 3:
		r.Shuffle(len(p.Uris), func(i, j int) { p.Uris[i], p.Uris[j] = p.Uris[j], p.Uris[i] })
	case 4:
		p.Rules = slices.Insert(p.Rules, r.Intn(len(p.Rules)+1), rule(randomRuleName(r)))
	case 5:
		r.Shuffle(len(p.Rules), func(i, j int) { p.Rules[i], p.Rules[j] = p.Rules[j], p.Rules[i] })
	default:
		if n := len(p.Rules); n > 0 {
			i := r.Intn(n)
			p.Rules[i] = brokenRule(r, p.Rules[i])
		}
	}
	return p
}

func brokenRule(r *rand.Rand, x impl.Rule) impl.Rule {
	x.Words = slices.Clone(x.Words)
	switch r.Intn(3) {
	case 0:
		x.Name = randomRuleName(r)
	case 1:
		word := []string{"", " ", ";", "a b", "a;", "\t", randomWord(r), randomWord(r)}[r.Intn(8)]
		x.Words = slices.Insert(x.Words, r.Intn(len(x.Words)+1), word)
	case 2:
		x.Words = append(x.Words, words(r.Intn(9))...)
	}
	return x
}

func TestModelOfPolicies(t *testing.T) {
	r := rand.New(rand.NewSource(33))
	valid, invalid := 0, 0
	for i := range 60000 {
		p := randomPolicy(r, i%4)
		if modelPolicyOK(p) {
			isPolicy(t, p)
			valid++
		} else {
			noPolicy(t, p)
			invalid++
		}
	}
	if valid < 10000 || invalid < 10000 {
		t.Errorf("%d valid, %d invalid", valid, invalid)
	}
}
