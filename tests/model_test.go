package tests

import (
	"math/rand"
	"regexp"
	"strconv"
	"strings"
	"testing"

	"loop.example/g00779/impl"
)

// The model reads chapter 2 a second time, with regular expressions, so that
// it shares no mistake with the program.
var (
	modelParts = regexp.MustCompile(`(?s)^([^:]*)://([^/?#]*)(/[^?#]*)?(\?[^#]*)?(#.*)?$`)
	modelSite  = regexp.MustCompile(`(?s)^(?:([^@]*)@)?([^:]*)(?::(.*))?$`)
	modelOther = regexp.MustCompile(`(?s)^([^:]*):([^?#]*)`)

	modelScheme = regexp.MustCompile(`^[a-z][-+.a-z0-9]{0,11}$`)
	modelUser   = regexp.MustCompile(`^[!"$-.0->A-~]*$`)
	modelHost   = regexp.MustCompile(`^[a-z0-9]+([-.][a-z0-9]+)*$`)
	modelPort   = regexp.MustCompile(`^[1-9][0-9]{0,4}$`)
	modelPath   = regexp.MustCompile(`^[!"$->@-~]*$`)
	modelQuery  = regexp.MustCompile(`^[!"$-~]*$`)
	modelAny    = regexp.MustCompile(`^[!-~]*$`)
)

func modelLower(t string) string {
	return strings.Map(func(c rune) rune {
		if c >= 'A' && c <= 'Z' {
			return c + 32
		}
		return c
	}, t)
}

func modelDefault(scheme string) int {
	return map[string]int{"http": 80, "https": 443}[scheme]
}

func modelText(u impl.Url) string {
	if modelDefault(u.Scheme) == 0 {
		return u.Scheme + ":" + u.Path
	}
	site := u.Host
	if u.User != "" {
		site = u.User + "@" + site
	}
	if u.Port != 0 {
		site += ":" + strconv.Itoa(u.Port)
	}
	rest := u.Path
	if u.HasQuery {
		rest += "?" + u.Query
	}
	if u.HasFragment {
		rest += "#" + u.Fragment
	}
	return u.Scheme + "://" + site + rest
}

func modelOK(u impl.Url) bool {
	if len(modelText(u)) > 100 || !modelScheme.MatchString(u.Scheme) || !modelPath.MatchString(u.Path) {
		return false
	}
	if modelDefault(u.Scheme) == 0 {
		u.Scheme, u.Path = "", ""
		return u == impl.Url{}
	}
	if u.Query != "" && !u.HasQuery || u.Fragment != "" && !u.HasFragment {
		return false
	}
	return modelUser.MatchString(u.User) && modelHost.MatchString(u.Host) &&
		u.Port >= 0 && u.Port <= 65535 && u.Port != modelDefault(u.Scheme) &&
		strings.HasPrefix(u.Path, "/") && modelQuery.MatchString(u.Query) && modelAny.MatchString(u.Fragment)
}

func modelParse(t string) (impl.Url, bool) {
	other := modelOther.FindStringSubmatch(t)
	if other == nil {
		return impl.Url{}, false
	}
	u := impl.Url{Scheme: modelLower(other[1]), Path: other[2]}
	if modelDefault(u.Scheme) != 0 {
		parts := modelParts.FindStringSubmatch(t)
		if parts == nil {
			return impl.Url{}, false
		}
		site := modelSite.FindStringSubmatch(parts[2])
		u.User, u.Host, u.Path = site[1], modelLower(site[2]), "/"+strings.TrimPrefix(parts[3], "/")
		if hasPort := modelSite.FindStringSubmatchIndex(parts[2])[6] >= 0; hasPort {
			if !modelPort.MatchString(site[3]) {
				return impl.Url{}, false
			}
			if u.Port, _ = strconv.Atoi(site[3]); u.Port == modelDefault(u.Scheme) {
				u.Port = 0
			}
		}
		u.Query, u.HasQuery = strings.CutPrefix(parts[4], "?")
		u.Fragment, u.HasFragment = strings.CutPrefix(parts[5], "#")
	}
	if !modelOK(u) {
		return impl.Url{}, false
	}
	return u, true
}

// randomText mixes pieces that mean something in a URL with any bytes.
func randomText(r *rand.Rand) string {
	pieces := []string{":", "://", "/", "//", "?", "#", "@", "-", ".", "a", "b.example", "A", "x", "80", "443", "0", "65535", "65536", "u", "u:p@", "_", "%", "~", "!", " ", "\x80", "é", "\u212a", "\x00", "\x7f"}
	starts := []string{"", "http://", "https://", "HTTP://", "HttpS://", "http:", "https:/", "data:", "A:", "a+b.c-1:", "1:", "http://x", "https://x:443", "http://x:80", "https://u@x:1/"}
	var b strings.Builder
	b.WriteString(starts[r.Intn(len(starts))])
	for n := r.Intn(12); n > 0; n-- {
		if r.Intn(12) == 0 {
			b.WriteByte(byte(r.Intn(256)))
		} else {
			b.WriteString(pieces[r.Intn(len(pieces))])
		}
	}
	if r.Intn(10) == 0 {
		b.WriteString(strings.Repeat("a", 60+r.Intn(60)))
	}
	return b.String()
}

// randomUrl returns a Url that is often valid, and otherwise almost.
func randomUrl(r *rand.Rand) impl.Url {
	pick := func(list ...string) string { return list[r.Intn(len(list))] }
	u := impl.Url{Scheme: pick("http", "https", "http", "https", "data", "a", "HTTP", "", "abcdefghijkl", "abcdefghijklm")}
	if web := u.Scheme == "http" || u.Scheme == "https"; web != (r.Intn(12) == 0) {
		u.Host = pick("a", "a.example", "x-1", "9", "a.b-c.d", strings.Repeat("h", r.Intn(100)), "a", "a..b", "-a", "A")
		u.User = pick("", "u", "u:p", ":", strings.Repeat("u", r.Intn(90)), "", "a@", "#")
		u.Path = pick("/", "/p", "/p/q", "/@:", "/"+strings.Repeat("p", r.Intn(95)), "/", "", "p", "/?")
		u.Port = []int{0, 0, 0, 80, 443, 8080, 1, 65535, 65536, -1}[r.Intn(10)]
		u.HasQuery, u.HasFragment = r.Intn(3) > 0, r.Intn(3) > 0
		if u.HasQuery != (r.Intn(20) == 0) {
			u.Query = pick("", "q", "k=v", "?", "/@:?", strings.Repeat("q", r.Intn(90)), "#", " ")
		}
		if u.HasFragment != (r.Intn(20) == 0) {
			u.Fragment = pick("", "f", "#", "#?/@:", strings.Repeat("f", r.Intn(90)), "\x80")
		}
		return u
	}
	u.Path = pick("", "p", "//u@h:80/", "a:b", strings.Repeat("p", r.Intn(110)), "?", "a#")
	return u
}

func TestModelOfTexts(t *testing.T) {
	r := rand.New(rand.NewSource(1))
	found := 0
	for i := 0; i < 60000; i++ {
		text := randomText(r)
		want, ok := modelParse(text)
		code := impl.ErrForm
		if ok {
			code = impl.OK
			found++
		}
		u, c := impl.ParseUrl(text)
		if u != want || c != code {
			t.Fatalf("ParseUrl(%q) = %+v, %d, not %+v, %d", text, u, c, want, code)
		}
		if ok {
			checkPromise2(t, u)
		} else if s := impl.StripText(text); s != "" {
			t.Fatalf("StripText(%q) = %q", text, s)
		}
	}
	if found < 5000 {
		t.Errorf("only %d texts are URLs", found)
	}
}

func TestModelOfUrls(t *testing.T) {
	r := rand.New(rand.NewSource(2))
	found := 0
	for i := 0; i < 60000; i++ {
		u := randomUrl(r)
		if impl.UrlOK(u) != modelOK(u) {
			t.Fatalf("UrlOK(%+v) is not %v", u, modelOK(u))
		}
		if modelOK(u) {
			found++
			isUrl(t, u, modelText(u))
			checkPromise2(t, u)
		} else {
			noUrl(t, u)
		}
		if t.Failed() {
			return
		}
	}
	if found < 5000 {
		t.Errorf("only %d URLs are valid", found)
	}
}

// checkPromise2 takes a valid URL: it is recovered from its text; stripped, it
// has neither user nor fragment, whatever these are, and keeps its origin.
func checkPromise2(t *testing.T, u impl.Url) {
	t.Helper()
	text, code := impl.UrlText(u)
	if back, c := impl.ParseUrl(text); back != u || code != impl.OK || c != impl.OK {
		t.Fatalf("%+v is not recovered from %q: %+v, codes %d and %d", u, text, back, code, c)
	}
	stripped, code := impl.StripUrl(u)
	if code != impl.OK || stripped != impl.StripText(text) {
		t.Fatalf("StripUrl(%+v) = %q, %d; StripText = %q", u, stripped, code, impl.StripText(text))
	}
	if modelDefault(u.Scheme) == 0 {
		if stripped != u.Scheme {
			t.Fatalf("StripUrl(%+v) = %q", u, stripped)
		}
		return
	}
	bare := u
	bare.User, bare.Fragment, bare.HasFragment = "", "", false
	s, code := impl.ParseUrl(stripped)
	if s != bare || code != impl.OK {
		t.Fatalf("%+v stripped is %+v", u, s)
	}
	a, _ := impl.OriginOf(u)
	b, _ := impl.OriginOf(s)
	if a != b || a == "" || !strings.HasPrefix(stripped, a+"/") || !impl.SameOrigin(u, s) {
		t.Fatalf("%+v stripped has the origin %q, not %q", u, b, a)
	}
}

// TestModelOfOrigins: two URLs have the same origin if and only if the texts
// of their origins are equal.
func TestModelOfOrigins(t *testing.T) {
	r := rand.New(rand.NewSource(3))
	same := 0
	for i := 0; i < 60000; i++ {
		a, b := randomUrl(r), randomUrl(r)
		if r.Intn(4) > 0 {
			b = a
			b.User, b.Path, b.Query, b.HasQuery = "v", "/z", "y", true
		}
		switch r.Intn(8) {
		case 0:
			b.Scheme = "http"
		case 1:
			b.Host += "z"
		case 2:
			b.Port = 8443
		}
		x, codeA := impl.OriginOf(a)
		y, codeB := impl.OriginOf(b)
		want := codeA == impl.OK && codeB == impl.OK && x == y
		if impl.SameOrigin(a, b) != want || impl.SameOrigin(b, a) != want {
			t.Fatalf("SameOrigin(%+v, %+v) is not %v", a, b, want)
		}
		if want {
			same++
		}
	}
	if same < 1000 {
		t.Errorf("only %d pairs have the same origin", same)
	}
}
