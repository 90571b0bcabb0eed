package tests

import (
	"fmt"
	"math"
	"strings"
	"testing"

	"loop.example/g00779/impl"
)

// padded returns t followed by as many letters as make it n bytes long.
func padded(t string, n int) string {
	return t + strings.Repeat("a", n-len(t))
}

// brief keeps enormous fields out of a message.
func brief(u impl.Url) string {
	return fmt.Sprintf("%.300s", fmt.Sprintf("%+q", fmt.Sprintf("%+v", u)))
}

// isUrl checks everything that holds for a valid URL, given its text.
func isUrl(t *testing.T, u impl.Url, text string) {
	t.Helper()
	if !impl.UrlOK(u) {
		t.Errorf("%+v is valid", u)
	}
	if s, code := impl.UrlText(u); s != text || code != impl.OK {
		t.Errorf("UrlText(%+v) = %q, %d, not %q", u, s, code, text)
	}
	if back, code := impl.ParseUrl(text); back != u || code != impl.OK {
		t.Errorf("ParseUrl(%q) = %+v, %d, not %+v", text, back, code, u)
	}
	web := u.Scheme == "http" || u.Scheme == "https"
	if impl.SameOrigin(u, u) != web {
		t.Errorf("%+v has the same origin as itself: %v", u, !web)
	}
	if _, code := impl.StripUrl(u); code != impl.OK {
		t.Errorf("StripUrl(%+v): code %d", u, code)
	}
}

// noUrl checks that every function rejects an invalid URL.
func noUrl(t *testing.T, u impl.Url) {
	t.Helper()
	if impl.UrlOK(u) {
		t.Errorf("%s is not valid", brief(u))
	}
	if s, code := impl.UrlText(u); s != "" || code != impl.ErrBad {
		t.Errorf("UrlText(%s) = %.200q, %d", brief(u), s, code)
	}
	if s, code := impl.OriginOf(u); s != "" || code != impl.ErrBad {
		t.Errorf("OriginOf(%s) = %.200q, %d", brief(u), s, code)
	}
	if s, code := impl.StripUrl(u); s != "" || code != impl.ErrBad {
		t.Errorf("StripUrl(%s) = %.200q, %d", brief(u), s, code)
	}
	good := impl.Url{Scheme: "http", Host: "x", Path: "/"}
	if impl.SameOrigin(u, u) || impl.SameOrigin(u, good) || impl.SameOrigin(good, u) {
		t.Errorf("%s has the same origin as another URL", brief(u))
	}
}

// noText checks that a text is no URL.
func noText(t *testing.T, text string, want int) {
	t.Helper()
	if u, code := impl.ParseUrl(text); u != (impl.Url{}) || code != want {
		t.Errorf("ParseUrl of %d bytes %.120q = %+v, %d, not code %d", len(text), text, u, code, want)
	}
	if s := impl.StripText(text); s != "" {
		t.Errorf("StripText of %d bytes %.120q = %q", len(text), text, s)
	}
}

func TestUrlsAndTheirTexts(t *testing.T) {
	for _, v := range []struct {
		u    impl.Url
		text string
	}{
		{impl.Url{Scheme: "http", Host: "a", Path: "/"}, "http://a/"},
		{impl.Url{Scheme: "https", User: "u:p", Host: "a.b-c.example", Port: 8443, Path: "/p/q", Query: "k=v", Fragment: "f", HasQuery: true, HasFragment: true}, "https://u:p@a.b-c.example:8443/p/q?k=v#f"},
		{impl.Url{Scheme: "http", Host: "0.0", Path: "/", HasQuery: true, HasFragment: true}, "http://0.0/?#"},
		{impl.Url{Scheme: "http", User: ":", Host: "a", Path: "//:@"}, "http://:@a//:@"},
		{impl.Url{Scheme: "http", Host: "a", Path: "/", Query: "?/@:", HasQuery: true}, "http://a/??/@:"},
		{impl.Url{Scheme: "http", Host: "a", Path: "/", Fragment: "#?/@:", HasFragment: true}, "http://a/##?/@:"},
		{impl.Url{Scheme: "http", Host: "a", Port: 443, Path: "/"}, "http://a:443/"},
		{impl.Url{Scheme: "https", Host: "a", Port: 80, Path: "/"}, "https://a:80/"},
		{impl.Url{Scheme: "https", Host: "a", Path: "/ABC%20!~"}, "https://a/ABC%20!~"},
		{impl.Url{Scheme: "a"}, "a:"},
		{impl.Url{Scheme: "a+b.c-1", Path: "/"}, "a+b.c-1:/"},
		{impl.Url{Scheme: "httpx", Path: "//u@h:80/p"}, "httpx://u@h:80/p"},
		{impl.Url{Scheme: "data", Path: "::@/A"}, "data:::@/A"},
	} {
		isUrl(t, v.u, v.text)
	}
}

func TestParseUrl(t *testing.T) {
	for _, v := range []struct {
		text string
		u    impl.Url
	}{
		{"HTTP://Bob@A.EXAMPLE/P?Q#F", impl.Url{Scheme: "http", User: "Bob", Host: "a.example", Path: "/P", Query: "Q", Fragment: "F", HasQuery: true, HasFragment: true}},
		{"hTTpS://x", impl.Url{Scheme: "https", Host: "x", Path: "/"}},
		{"https://x?", impl.Url{Scheme: "https", Host: "x", Path: "/", HasQuery: true}},
		{"https://x#", impl.Url{Scheme: "https", Host: "x", Path: "/", HasFragment: true}},
		{"https://x#?", impl.Url{Scheme: "https", Host: "x", Path: "/", Fragment: "?", HasFragment: true}},
		{"https://x?#", impl.Url{Scheme: "https", Host: "x", Path: "/", HasQuery: true, HasFragment: true}},
		// A separator in a later part does not split an earlier one.
		{"https://x?/p", impl.Url{Scheme: "https", Host: "x", Path: "/", Query: "/p", HasQuery: true}},
		{"https://x?u@h:1", impl.Url{Scheme: "https", Host: "x", Path: "/", Query: "u@h:1", HasQuery: true}},
		{"https://x#u@h:1/p?q", impl.Url{Scheme: "https", Host: "x", Path: "/", Fragment: "u@h:1/p?q", HasFragment: true}},
		{"https://x#f?q#g", impl.Url{Scheme: "https", Host: "x", Path: "/", Fragment: "f?q#g", HasFragment: true}},
		{"https://x/u@h:1", impl.Url{Scheme: "https", Host: "x", Path: "/u@h:1"}},
		{"https://x/p/q//", impl.Url{Scheme: "https", Host: "x", Path: "/p/q//"}},
		{"https://x/p?q?r/s", impl.Url{Scheme: "https", Host: "x", Path: "/p", Query: "q?r/s", HasQuery: true}},
		{"https://u:p:@x:1", impl.Url{Scheme: "https", User: "u:p:", Host: "x", Port: 1, Path: "/"}},
		{"https://:@x", impl.Url{Scheme: "https", User: ":", Host: "x", Path: "/"}},
		// An empty user is none.
		{"https://@x:81/", impl.Url{Scheme: "https", Host: "x", Port: 81, Path: "/"}},
		{"a:b:c", impl.Url{Scheme: "a", Path: "b:c"}},
		{"A+B.C-1:X", impl.Url{Scheme: "a+b.c-1", Path: "X"}},
		{"data:a?b", impl.Url{Scheme: "data", Path: "a"}},
		{"data:a#b", impl.Url{Scheme: "data", Path: "a"}},
		{"data:a#b?c", impl.Url{Scheme: "data", Path: "a"}},
		{"data:a?b#c", impl.Url{Scheme: "data", Path: "a"}},
		{"data:?", impl.Url{Scheme: "data"}},
		{"data:#", impl.Url{Scheme: "data"}},
		// What is cut off is no part of the result and may be anything.
		{"data:a? \x00\x80\n", impl.Url{Scheme: "data", Path: "a"}},
		{"data:a#\xff é", impl.Url{Scheme: "data", Path: "a"}},
	} {
		if u, code := impl.ParseUrl(v.text); u != v.u || code != impl.OK {
			t.Errorf("ParseUrl(%q) = %+v, %d, not %+v", v.text, u, code, v.u)
		}
	}
}

func TestMalformedUrls(t *testing.T) {
	for _, text := range []string{
		"", " ", "x", "/", "//x/", "#a:b", "?a:b", ":", "::", "://x/", "1:x", "-a:x", "+a:x", ".a:x", "a_b:x", "a/b:c", " a:x", "a :x", "é:x",
		"abcdefghijklm:x", "http", "http:", "http:x", "http:/x", "http:/", "http://", "http:///", "http://?", "http://#", "http:?//x", "http:#//x", "http: //x",
		"http://@", "http://u@", "http://u@/p", "http://u@?x", "http://u@v@x/", "http://@@x/", "http://@u@x/", "http://x@", "http://:", "http://:1/", "http://u@:1/",
		"http://.x/", "http://x./", "http://-x/", "http://x-/", "http://x..y/", "http://x--y/", "http://x.-y/", "http://x-.y/", "http://x_y/", "http://./", "http://-/",
		"http://x y/", "http://x%20y/", "http://[::1]/", "http://\u00e4/", "http://\u212a/", "http://x\u212a/", "http://x\x80/", "HTTP\u017f://x/", "http\x00://x/",
		"http://x/ ", " http://x/", "http://x/\n", "http://x/\x7f", "http://x/é", "http://x/?\x1f", "http://x/? ", "http://x/#\x80", "http://x/# ", "http://\x80@x/", "http://u u@x/",
		"data: ", "data:\x7f", "data:é", "data:a b#c", "data:\x80?",
	} {
		noText(t, text, impl.ErrForm)
	}
}

func TestPorts(t *testing.T) {
	for _, n := range []int{1, 2, 79, 81, 442, 444, 8080, 65534, 65535, 80, 443} {
		for _, scheme := range []string{"http", "https"} {
			standard := scheme == "http" && n == 80 || scheme == "https" && n == 443
			u := impl.Url{Scheme: scheme, Host: "x", Port: n, Path: "/"}
			if standard {
				noUrl(t, u)
			} else {
				isUrl(t, u, scheme+"://x:"+decimal(n)+"/")
			}
		}
	}
	for _, n := range []int{-1, -80, -443, -65535, 65536, 65616, 1 << 16, 1<<32 + 81, math.MaxInt, math.MinInt} {
		noUrl(t, impl.Url{Scheme: "http", Host: "x", Port: n, Path: "/"})
		noUrl(t, impl.Url{Scheme: "https", Host: "x", Port: n, Path: "/"})
		noUrl(t, impl.Url{Scheme: "data", Port: n})
	}
}

// decimal avoids that the tests print numbers as the program does.
func decimal(n int) string {
	if n < 10 {
		return string(rune('0' + n))
	}
	return decimal(n/10) + decimal(n%10)
}

func TestDefaultPorts(t *testing.T) {
	for _, v := range []struct {
		text string
		port int
	}{
		{"http://x:80/", 0}, {"https://x:443/", 0}, {"http://x:443/", 443}, {"https://x:80/", 80},
		{"http://x/", 0}, {"https://x/", 0}, {"HTTP://x:80", 0}, {"HTTPS://u@x:443?q", 0}, {"http://x:1/", 1}, {"http://x:65535/", 65535},
	} {
		if u, code := impl.ParseUrl(v.text); u.Port != v.port || code != impl.OK {
			t.Errorf("ParseUrl(%q): port %d, code %d", v.text, u.Port, code)
		}
	}
}

func TestMalformedPorts(t *testing.T) {
	for _, port := range []string{
		"", "0", "-0", "00", "01", "080", "0443", "-1", "-80", "--1", "+1", "+80", "-", "1-", "65536", "65616", "99999", "100000",
		"999999999999999999", "1000000000000000000", "18446744073709551697", "9223372036854775889", "-18446744073709551535", "000000000000000000001",
		"x", "8x", "x8", "0x50", "8_0", "8.0", "1e1", " 80", "80 ", "80:", ":80", "80:80", "80@", "\u0661", "\uff18\uff10", "8\x00", "\x80",
	} {
		noText(t, "http://x:"+port+"/", impl.ErrForm)
		noText(t, "https://u:p@x:"+port, impl.ErrForm)
	}
}

// TestFieldBytes tries every byte in every field of a web URL: at its
// beginning, inside and at its end.
func TestFieldBytes(t *testing.T) {
	for b := 0; b < 256; b++ {
		c := string([]byte{byte(b)})
		printable := b >= 33 && b <= 126
		digit, lower := b >= '0' && b <= '9', b >= 'a' && b <= 'z'
		base := impl.Url{Scheme: "https", User: "u", Host: "h", Path: "/p", Query: "q", Fragment: "f", HasQuery: true, HasFragment: true}
		check := func(u impl.Url, valid bool) {
			t.Helper()
			if valid {
				isUrl(t, u, "https://"+u.User+"@"+u.Host+u.Path+"?"+u.Query+"#"+u.Fragment)
			} else {
				noUrl(t, u)
			}
		}
		for i, form := range []string{c, c + "x", "x" + c + "x", "x" + c} {
			u := base
			u.User = form
			check(u, printable && !strings.Contains("/?#@", c))
			u = base
			u.Host = form
			check(u, digit || lower || i == 2 && (c == "-" || c == "."))
			u = base
			u.Path = "/" + form
			check(u, printable && !strings.Contains("?#", c))
			u = base
			u.Query = form
			check(u, printable && c != "#")
			u = base
			u.Fragment = form
			check(u, printable)
		}
	}
}

func TestSchemeBytes(t *testing.T) {
	for b := 0; b < 256; b++ {
		c := string([]byte{byte(b)})
		lower := b >= 'a' && b <= 'z'
		inside := lower || b >= '0' && b <= '9' || c == "-" || c == "+" || c == "."
		for _, v := range []struct {
			scheme string
			valid  bool
		}{{c, lower}, {c + "x", lower}, {"x" + c + "x", inside}, {"x" + c, inside}} {
			if v.valid {
				isUrl(t, impl.Url{Scheme: v.scheme, Path: "p"}, v.scheme+":p")
			} else {
				noUrl(t, impl.Url{Scheme: v.scheme, Path: "p"})
			}
		}
	}
}

func TestPathBytesOfOtherUrls(t *testing.T) {
	for b := 0; b < 256; b++ {
		c := string([]byte{byte(b)})
		for _, path := range []string{c, c + "x", "x" + c + "x", "x" + c} {
			u := impl.Url{Scheme: "data", Path: path}
			if b >= 33 && b <= 126 && c != "?" && c != "#" {
				isUrl(t, u, "data:"+path)
			} else {
				noUrl(t, u)
			}
		}
	}
}

// TestParsedBytes tries every byte in every part of a text.
func TestParsedBytes(t *testing.T) {
	for b := 0; b < 256; b++ {
		c := string([]byte{byte(b)})
		printable := b >= 33 && b <= 126
		alnum := b >= '0' && b <= '9' || b >= 'a' && b <= 'z' || b >= 'A' && b <= 'Z'
		for _, v := range []struct {
			text  string
			valid bool
		}{
			{"x" + c + "x:p", alnum || strings.Contains("-+.:", c)},
			{"http" + c + "//h", c == ":"},
			{"http:/" + c + "h", c == "/"},
			{"http://x" + c + "x@h", printable && !strings.Contains("/?#@", c) || strings.Contains("/?#", c)},
			{"http://x" + c + "x", alnum || strings.Contains("-./?#@", c)},
			{"http://x/p" + c + "p", printable},
			{"http://x/?q" + c + "q", printable},
			{"http://x/#f" + c + "f", printable},
			{"http://x:1" + c + "1", b >= '0' && b <= '9' || strings.Contains("/?#@", c)},
			{"data:p" + c + "p", printable},
		} {
			if _, code := impl.ParseUrl(v.text); (code == impl.OK) != v.valid || code != impl.OK && code != impl.ErrForm {
				t.Errorf("ParseUrl(%q): code %d", v.text, code)
			}
		}
	}
}

func TestHosts(t *testing.T) {
	for _, host := range []string{"a", "9", "a.b", "a-b", "a.b.c-d.e", "1.2.3.4", "a1-2.b", "x-9"} {
		isUrl(t, impl.Url{Scheme: "http", Host: host, Path: "/"}, "http://"+host+"/")
	}
	for _, host := range []string{"", ".", "-", "a.", "a-", ".a", "-a", "a..b", "a--b", "a.-b", "a-.b", "A", "aB", "a_b", "a:b", "a@b", "a/b", "a b", "\u00e4"} {
		noUrl(t, impl.Url{Scheme: "http", Host: host, Path: "/"})
	}
}

func TestFieldsThatMayNotBeSet(t *testing.T) {
	other := impl.Url{Scheme: "data", Path: "p"}
	isUrl(t, other, "data:p")
	for _, set := range []func(*impl.Url){
		func(u *impl.Url) { u.User = "u" },
		func(u *impl.Url) { u.Host = "h" },
		func(u *impl.Url) { u.Port = 1 },
		func(u *impl.Url) { u.Query = "q" },
		func(u *impl.Url) { u.HasQuery = true },
		func(u *impl.Url) { u.Query, u.HasQuery = "q", true },
		func(u *impl.Url) { u.Fragment = "f" },
		func(u *impl.Url) { u.HasFragment = true },
		func(u *impl.Url) { u.Fragment, u.HasFragment = "f", true },
		func(u *impl.Url) { u.Scheme = "" },
		func(u *impl.Url) { u.Scheme = "Data" },
		func(u *impl.Url) { u.Path = "a?b" },
		func(u *impl.Url) { u.Path = "a#b" },
	} {
		u := other
		set(&u)
		noUrl(t, u)
	}
	web := impl.Url{Scheme: "https", Host: "h", Path: "/"}
	isUrl(t, web, "https://h/")
	for _, set := range []func(*impl.Url){
		func(u *impl.Url) { u.Query = "q" },
		func(u *impl.Url) { u.Fragment = "f" },
		func(u *impl.Url) { u.Query, u.HasFragment = "q", true },
		func(u *impl.Url) { u.Fragment, u.HasQuery = "f", true },
		func(u *impl.Url) { u.Host = "" },
		func(u *impl.Url) { u.Path = "" },
		func(u *impl.Url) { u.Path = "p" },
		func(u *impl.Url) { u.Path = "p/" },
		func(u *impl.Url) { u.Scheme = "HTTPS" },
		func(u *impl.Url) { u.Scheme = "data" },
		func(u *impl.Url) { *u = impl.Url{Scheme: "https", Path: "//h/"} },
		func(u *impl.Url) { *u = impl.Url{} },
	} {
		u := web
		set(&u)
		noUrl(t, u)
	}
}

func TestSchemeLengths(t *testing.T) {
	for n := 0; n <= 14; n++ {
		u := impl.Url{Scheme: padded("", n)}
		if n >= 1 && n <= 12 {
			isUrl(t, u, u.Scheme+":")
		} else {
			noUrl(t, u)
			noText(t, u.Scheme+":", impl.ErrForm)
		}
	}
}

// TestTextLengths makes each field in turn as long as the whole text allows,
// and then longer.
func TestTextLengths(t *testing.T) {
	base := impl.Url{Scheme: "https", User: "u", Host: "h", Port: 1, Path: "/", HasQuery: true, HasFragment: true}
	const baseLength = len("https://u@h:1/?#")
	for _, more := range []int{100 - baseLength, 101 - baseLength, 200, impl.MaxText, impl.MaxText + 1, 1 << 20} {
		tail := padded("", more)
		for _, grow := range []func(*impl.Url){
			func(u *impl.Url) { u.User += tail },
			func(u *impl.Url) { u.Host += tail },
			func(u *impl.Url) { u.Path += tail },
			func(u *impl.Url) { u.Query += tail },
			func(u *impl.Url) { u.Fragment += tail },
		} {
			u := base
			grow(&u)
			if baseLength+more <= 100 {
				isUrl(t, u, "https://"+u.User+"@"+u.Host+":1"+u.Path+"?"+u.Query+"#"+u.Fragment)
			} else {
				noUrl(t, u)
			}
		}
	}
	isUrl(t, impl.Url{Scheme: "data", Path: padded("", 95)}, padded("data:", 100))
	for _, n := range []int{96, 97, impl.MaxText, impl.MaxText + 1} {
		noUrl(t, impl.Url{Scheme: "data", Path: padded("", n)})
	}
	noUrl(t, impl.Url{Scheme: padded("", impl.MaxText+1)})
	isUrl(t, impl.Url{Scheme: "http", Host: padded("", 92), Path: "/"}, padded("http://", 99)+"/")
	noUrl(t, impl.Url{Scheme: "http", Host: padded("", 93), Path: "/"})
}

// TestParsedLengths: what is limited is the text of the result, which may be
// shorter or longer than the parsed one.
func TestParsedLengths(t *testing.T) {
	for _, v := range []struct {
		text  string
		valid bool
	}{
		{padded("http://x/", 100), true},
		{padded("http://x/", 101), false},
		{padded("http://x:80/", 103), true},
		{padded("http://x:80/", 104), false},
		{padded("http://x:81/", 101), false},
		{padded("http://@x/", 101), true},
		{padded("http://@x/", 102), false},
		{padded("http://", 99), true},
		{padded("http://", 100), false},
		{padded("http://", 98) + "?", true},
		{padded("http://", 99) + "?", false},
		{padded("http://x/?", 100), true},
		{padded("http://x/?", 101), false},
		{padded("http://x/#", 100), true},
		{padded("http://x/#", 101), false},
		{padded("data:", 100), true},
		{padded("data:", 101), false},
		{padded("data:", 100) + "?" + padded("", 1000), true},
		{padded("data:", 100) + "#" + padded("", 1000), true},
		{padded("data:", 101) + "#", false},
	} {
		if _, code := impl.ParseUrl(v.text); (code == impl.OK) != v.valid || code != impl.OK && code != impl.ErrForm {
			t.Errorf("ParseUrl(%q): code %d", v.text, code)
		}
	}
}

func TestLongArguments(t *testing.T) {
	longest := padded("data:x#", impl.MaxText)
	if u, code := impl.ParseUrl(longest); u != (impl.Url{Scheme: "data", Path: "x"}) || code != impl.OK {
		t.Errorf("ParseUrl of MaxText bytes = %+v, %d", u, code)
	}
	if s := impl.StripText(longest); s != "data" {
		t.Errorf("StripText of MaxText bytes = %q", s)
	}
	noText(t, longest+"a", impl.ErrLong)
	for _, start := range []string{"", ":", "http:", "http://x/", "http://x/#", "data:", " "} {
		noText(t, padded(start, impl.MaxText), impl.ErrForm)
		noText(t, padded(start, impl.MaxText+1), impl.ErrLong)
		noText(t, padded(start, 1<<20), impl.ErrLong)
	}
}

func TestOrigins(t *testing.T) {
	for _, v := range []struct{ text, origin string }{
		{"http://x", "http://x"},
		{"https://a-b.example/p?q#f", "https://a-b.example"},
		{"HTTPS://U:p@X:1/", "https://x:1"},
		{"http://x:80/", "http://x"},
		{"http://x:443/", "http://x:443"},
		{"https://x:65535?q", "https://x:65535"},
		{"https://@x", "https://x"},
	} {
		u, code := impl.ParseUrl(v.text)
		if code != impl.OK {
			t.Errorf("ParseUrl(%q): code %d", v.text, code)
		}
		if o, code := impl.OriginOf(u); o != v.origin || code != impl.OK {
			t.Errorf("OriginOf %q = %q, %d", v.text, o, code)
		}
	}
	for _, u := range []impl.Url{{Scheme: "data", Path: "a"}, {Scheme: "a"}, {Scheme: "httpx", Path: "//x/"}, {Scheme: "ws", Path: "//x/"}} {
		if o, code := impl.OriginOf(u); o != "" || code != impl.ErrScheme {
			t.Errorf("OriginOf(%+v) = %q, %d", u, o, code)
		}
	}
}

func TestSameOrigin(t *testing.T) {
	for _, v := range []struct {
		a, b string
		same bool
	}{
		{"http://x/", "http://x/", true},
		{"http://x/a?b#c", "HTTP://u@X:80", true},
		{"https://x:443/", "https://v:w@x/p", true},
		{"https://x:1/", "https://x:1/p", true},
		{"http://x/", "https://x/", false},
		{"http://x:443/", "https://x/", false},
		{"http://x:8080/", "https://x:8080/", false},
		{"http://x/", "http://x:81/", false},
		{"http://x:1/", "http://x:2/", false},
		{"http://x/", "http://y/", false},
		{"http://x/", "http://x.y/", false},
		{"http://x/", "data:x", false},
		{"data:x", "http://x/", false},
		{"data:x", "data:x", false},
		{"data://x/", "data://x/", false},
	} {
		a, codeA := impl.ParseUrl(v.a)
		b, codeB := impl.ParseUrl(v.b)
		if codeA != impl.OK || codeB != impl.OK {
			t.Errorf("ParseUrl: %q %d, %q %d", v.a, codeA, v.b, codeB)
		}
		if impl.SameOrigin(a, b) != v.same || impl.SameOrigin(b, a) != v.same {
			t.Errorf("SameOrigin of %q and %q is not %v", v.a, v.b, v.same)
		}
	}
}

func TestStripped(t *testing.T) {
	for _, v := range []struct{ text, stripped string }{
		{"https://u:p@a.example:8443/p?q#f", "https://a.example:8443/p?q"},
		{"https://a.example/p", "https://a.example/p"},
		{"HTTP://U@X:80", "http://x/"},
		{"http://x?#", "http://x/?"},
		{"http://x/?#?", "http://x/?"},
		{"http://x/#", "http://x/"},
		{"http://x#/secret?secret@secret", "http://x/"},
		{"http://x/@?@#@", "http://x/@?@"},
		{"http://:@x/", "http://x/"},
		{"data:secret", "data"},
		{"DATA:secret?secret#secret", "data"},
		{"httpx://u@x/p", "httpx"},
		{"a:", "a"},
	} {
		if s := impl.StripText(v.text); s != v.stripped {
			t.Errorf("StripText(%q) = %q", v.text, s)
		}
		u, _ := impl.ParseUrl(v.text)
		if s, code := impl.StripUrl(u); s != v.stripped || code != impl.OK {
			t.Errorf("StripUrl of %q = %q, %d", v.text, s, code)
		}
	}
}

// TestStrippedWhateverTheyAre: users and fragments made of separators and of
// whole URLs leave no trace.
func TestStrippedWhateverTheyAre(t *testing.T) {
	users := []string{"", "u", "u:p", ":", ":80", "x:80", "http:", "!$&'()*+,;=", "%40", "~", "aaaaaaaaaa"}
	fragments := []string{"", "f", "#", "?", "/", "@", ":", "#?/@:", "http://y/", "//y@z:1/?#", "@y:1/?#"}
	for _, host := range []string{"http://x", "https://x:1"} {
		for _, rest := range []string{"/", "/p", "/p?", "/p?q?r", "/@:/?@:/"} {
			for _, user := range users {
				for _, fragment := range fragments {
					scheme, site, _ := strings.Cut(host, "//")
					text := scheme + "//" + user + "@" + site + rest + "#" + fragment
					if s := impl.StripText(text); s != host+rest {
						t.Errorf("StripText(%q) = %q", text, s)
					}
					u, code := impl.ParseUrl(text)
					if o, c := impl.OriginOf(u); o != host || c != impl.OK || code != impl.OK {
						t.Errorf("OriginOf %q = %q, %d", text, o, c)
					}
				}
			}
		}
	}
}
