package tests

import (
	"math/rand"
	"regexp"
	"strconv"
	"strings"
	"testing"

	"loop.example/g00779/impl"
)

// The model reads chapter 6 a second time. It has no codes: where there is no
// URL, there is an empty text. A site is what a regular expression finds at the
// beginning of a stripped URL, and two URLs have the same origin if they have
// the same site.
var (
	modelFront     = regexp.MustCompile(`^(https?://[^/]*|[^:]*)`)
	modelKeyword   = regexp.MustCompile(`^(inline|eval|self)$`)
	modelDirective = regexp.MustCompile(`^[a-z][-a-z]{0,23}$`)
)

func modelStripped(t string) string {
	u, ok := modelParse(t)
	if !ok || modelDefault(u.Scheme) == 0 {
		return u.Scheme
	}
	return modelText(impl.Url{Scheme: u.Scheme, Host: u.Host, Port: u.Port, Path: u.Path, Query: u.Query, HasQuery: u.HasQuery})
}

func modelSiteOf(t string) string { return modelFront.FindString(modelStripped(t)) }

// modelTold returns what the report of a valid violation tells.
func modelTold(v impl.Violation) told {
	var start [40]byte
	x := told{
		blocked:   modelStripped(v.Blocked),
		column:    v.Column,
		document:  modelStripped(v.Document),
		directive: v.Directive,
		line:      v.Line,
		referrer:  modelStripped(v.Referrer),
		sample:    string(start[:copy(start[:], v.Sample)]),
		source:    modelStripped(v.Source),
	}
	if v.Redirected {
		x.blocked = modelSiteOf(v.Blocked)
	}
	if modelKeyword.MatchString(v.Blocked) {
		x.blocked = v.Blocked
	}
	if modelSiteOf(v.Source) != modelSiteOf(v.Document) {
		x.source = modelSiteOf(v.Source)
	}
	return x
}

func modelViolationOK(v impl.Violation) bool {
	longest := max(len(v.Document), len(v.Referrer), len(v.Blocked), len(v.Source))
	return longest <= 100 && len(v.Sample) <= 200 && modelDirective.MatchString(v.Directive) &&
		min(v.Line, v.Column) >= 0 && max(v.Line, v.Column) <= 9999
}

// checkViolation compares the program with the model, and returns whether v is
// valid.
func checkViolation(t *testing.T, v impl.Violation) bool {
	t.Helper()
	if !modelViolationOK(v) {
		noViolation(t, v)
		return false
	}
	isViolation(t, v, modelTold(v))
	return true
}

// randomPlace returns a text that is often a URL, and often one of a few
// origins.
func randomPlace(r *rand.Rand) string {
	pick := func(list ...string) string { return list[r.Intn(len(list))] }
	switch r.Intn(8) {
	case 0:
		return randomText(r)
	case 1:
		return pick("inline", "eval", "self", "Inline", "inline ", "", "data:x", "DATA:y", "blob:https://a/", "nothing", "inline:", "\xff")
	}
	return pick("https", "https", "http", "HTTPS", "Http") + "://" + pick("", "", "u@", "u:p@", "a@") + pick("a", "a", "A", "b", "a.b", "a b") +
		pick("", "", ":443", ":80", ":8443", ":0") + pick("", "/", "/p", "/p/q", "//a:1") + pick("", "?", "?k=v", "?a@b/") + pick("", "#", "#f", "#?/@")
}

func randomSample(r *rand.Rand) string {
	switch r.Intn(4) {
	case 0:
		return randomString(r)
	case 1:
		return strings.Repeat(randomString(r)+"x", 203)[:190+r.Intn(13)]
	}
	b := make([]byte, 30+r.Intn(60))
	r.Read(b)
	return string(b)
}

func randomViolation(r *rand.Rand) impl.Violation {
	v := impl.Violation{
		Document:   randomPlace(r),
		Referrer:   randomPlace(r),
		Blocked:    randomPlace(r),
		Source:     randomPlace(r),
		Directive:  []string{"script-src", "img-src", "a"}[r.Intn(3)],
		Sample:     randomSample(r),
		Line:       r.Intn(10000),
		Column:     r.Intn(10000),
		Redirected: r.Intn(2) == 0,
	}
	if r.Intn(3) == 0 {
		v.Source = otherText(r, v.Document, false)
	}
	return v
}

// changedViolation changes v in one field, which need not make it invalid or
// change its report.
func changedViolation(r *rand.Rand, v impl.Violation) impl.Violation {
	number := []int{-1, 0, 1, 9998, 9999, 10000, -r.Intn(1 << 40), r.Intn(1 << 40), r.Intn(12000)}[r.Intn(9)]
	url := []string{randomPlace(r), randomPlace(r), padded("https://a/", 95+r.Intn(10)), padded("https://a/#", 95+r.Intn(10))}[r.Intn(4)]
	switch r.Intn(9) {
	case 0:
		v.Document = url
	case 1:
		v.Referrer = url
	case 2:
		v.Blocked = url
	case 3:
		v.Source = url
	case 4:
		v.Directive = randomRuleName(r)
	case 5:
		v.Sample = randomSample(r)
	case 6:
		v.Line = number
	case 7:
		v.Column = number
	case 8:
		v.Redirected = !v.Redirected
	}
	return v
}

func TestModelOfViolations(t *testing.T) {
	r := rand.New(rand.NewSource(41))
	valid, invalid, whole, site := 0, 0, 0, 0
	for i := range 15000 {
		v := randomViolation(r)
		for range i % 4 {
			v = changedViolation(r, v)
		}
		if !checkViolation(t, v) {
			invalid++
			continue
		}
		valid++
		switch x := modelTold(v); {
		case strings.Count(x.source, "/") > 2:
			whole++
		case x.source != "":
			site++
		}
	}
	if valid < 6000 || invalid < 3000 || whole < 1000 || site < 3000 {
		t.Errorf("%d valid, %d invalid, %d sources told, %d sites", valid, invalid, whole, site)
	}
}

// otherText returns a text that differs from t in what no report tells of it.
// Of a URL of the web, that is the user and the fragment, and with onlySite all
// behind the host and port; of another URL, all behind the scheme; and of a text
// that is no URL, everything.
func otherText(r *rand.Rand, t string, onlySite bool) string {
	pick := func(list ...string) string { return list[r.Intn(len(list))] }
	u, ok := modelParse(t)
	var other string
	switch {
	case !ok:
		other = pick("", "nothing", "https://", "https://a b/", "Inline", "\xff\x00", "1:", randomText(r))
	case modelDefault(u.Scheme) == 0:
		other = pick(u.Scheme, strings.ToUpper(u.Scheme)) + ":" + pick("", "x", "secret/@", "//u@h:80/") + pick("", "?q", "#f", "?\xff#")
	default:
		site := modelSiteOf(t)
		behind := strings.TrimPrefix(modelStripped(t), site)
		if onlySite {
			behind = pick("", "/", "/p", "?", "?k=v", "/secret@/:?k?", "/https://a/")
		}
		scheme, host, _ := strings.Cut(site, "://")
		if u.Port == 0 {
			host += pick("", "", ":"+strconv.Itoa(modelDefault(scheme)))
		}
		user := pick("", "@", "u@", "u:p@", "!$&@")
		other = pick(scheme, strings.ToUpper(scheme)) + "://" + user + pick(host, strings.ToUpper(host)) + behind + pick("", "#", "#f", "#?/#@")
	}
	// It may have become too long, or what is random may be a URL.
	if _, found := modelParse(other); found != ok || len(other) > 100 {
		return t
	}
	return other
}

// otherSecrets returns a violation that differs from v in what its report omits.
func otherSecrets(r *rand.Rand, v impl.Violation) impl.Violation {
	sameSite := modelSiteOf(v.Source) == modelSiteOf(v.Document)
	v.Document, v.Referrer = otherText(r, v.Document, false), otherText(r, v.Referrer, false)
	v.Source = otherText(r, v.Source, !sameSite)
	if !modelKeyword.MatchString(v.Blocked) {
		v.Blocked = otherText(r, v.Blocked, v.Redirected)
	}
	if len(v.Sample) >= 40 {
		v.Sample = v.Sample[:40] + randomString(r)
	}
	return v
}

// TestPromise5: violations that differ only in omitted data have the same
// report.
func TestPromise5(t *testing.T) {
	r := rand.New(rand.NewSource(42))
	different := map[string]int{}
	for range 15000 {
		a := randomViolation(r)
		if !impl.ViolationOK(a) {
			continue
		}
		b := otherSecrets(r, a)
		areAlike(t, a, b, true)
		for name, x := range map[string]bool{
			"Document":           a.Document != b.Document,
			"Referrer":           a.Referrer != b.Referrer,
			"Blocked":            a.Blocked != b.Blocked && !a.Redirected,
			"Blocked redirected": a.Blocked != b.Blocked && a.Redirected,
			"Source":             a.Source != b.Source && modelSiteOf(a.Source) == modelSiteOf(a.Document),
			"Source elsewhere":   a.Source != b.Source && modelSiteOf(a.Source) != modelSiteOf(a.Document),
			"Sample":             a.Sample != b.Sample,
		} {
			if x {
				different[name]++
			}
		}
		if t.Failed() {
			return
		}
	}
	for _, name := range []string{"Document", "Referrer", "Blocked", "Blocked redirected", "Source", "Source elsewhere", "Sample"} {
		if different[name] < 5000 {
			t.Errorf("only %d violations differ in %s", different[name], name)
		}
	}
}

// TestModelOfAlike: violations have the same report if and only if it tells the
// same of both.
func TestModelOfAlike(t *testing.T) {
	r := rand.New(rand.NewSource(43))
	alike, unlike, invalid := 0, 0, 0
	for range 15000 {
		a := randomViolation(r)
		b := otherSecrets(r, a)
		for range r.Intn(3) {
			b = changedViolation(r, b)
		}
		want := modelViolationOK(a) && modelViolationOK(b) && modelTold(a) == modelTold(b)
		if impl.AlikeOutside(a, b) != want || impl.AlikeOutside(b, a) != want {
			t.Fatalf("AlikeOutside(%s, %s) is not %v", briefViolation(a), briefViolation(b), want)
		}
		switch {
		case want:
			alike++
		case modelViolationOK(a) && modelViolationOK(b):
			unlike++
		default:
			invalid++
		}
	}
	if alike < 3000 || unlike < 3000 || invalid < 2000 {
		t.Errorf("%d alike, %d not alike, %d invalid", alike, unlike, invalid)
	}
}

// TestEveryByteInViolations replaces, inserts and removes bytes everywhere in
// the texts of a violation.
func TestEveryByteInViolations(t *testing.T) {
	base := impl.Violation{Document: "https://d:1/d", Referrer: "data:r#", Blocked: "inline", Source: "https://u@d:1/s?k#f", Directive: "img-src", Sample: "s"}
	fields := append([]func(*impl.Violation) *string{
		func(v *impl.Violation) *string { return &v.Directive },
		func(v *impl.Violation) *string { return &v.Sample },
	}, urlFields...)
	for _, field := range fields {
		s := *field(&base)
		for i := 0; i <= len(s); i++ {
			texts := []string{s[:i], s[i:]}
			for c := range 256 {
				b := string([]byte{byte(c)})
				texts = append(texts, s[:i]+b+s[i:], s[:i]+b+s[min(i+1, len(s)):])
			}
			for _, changed := range texts {
				v := base
				*field(&v) = changed
				checkViolation(t, v)
				v.Redirected = true
				checkViolation(t, v)
			}
		}
	}
}
