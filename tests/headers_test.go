package tests

import (
	"fmt"
	"math"
	"slices"
	"strings"
	"testing"

	"loop.example/g00779/impl"
)

func target(url string, priority, weight int) impl.Target {
	return impl.Target{Url: url, Priority: priority, Weight: weight}
}

func group(name string, age int, targets ...impl.Target) impl.Group {
	return impl.Group{Name: name, Age: age, Targets: targets}
}

// endpoint returns a group of the kind that ReadEndpoints returns.
func endpoint(name, url string) impl.Group { return group(name, 100, target(url, 1, 1)) }

// targets returns n targets with different URLs.
func targets(n int) []impl.Target {
	var list []impl.Target
	for i := range n {
		list = append(list, target(fmt.Sprintf("https://t%d.example/", i), 1+i%9, 9-i%9))
	}
	return list
}

// sameGroup compares without the program.
func sameGroup(a, b impl.Group) bool {
	return a.Name == b.Name && a.Age == b.Age && slices.Equal(a.Targets, b.Targets)
}

func isNoGroup(g impl.Group) bool { return g.Name == "" && g.Age == 0 && len(g.Targets) == 0 }

func briefGroup(g impl.Group) string { return fmt.Sprintf("%.300q", fmt.Sprintf("%+v", g)) }

// isGroup checks all that chapter 4 says about a valid group and its text.
func isGroup(t *testing.T, g impl.Group) {
	t.Helper()
	if !impl.GroupOK(g) {
		t.Errorf("GroupOK: %s is valid", briefGroup(g))
	}
	if !impl.SameGroup(g, g) {
		t.Errorf("SameGroup: %s is equal to itself", briefGroup(g))
	}
	var items []impl.Json
	for _, x := range g.Targets {
		items = append(items, object("url", text(x.Url), "priority", number(x.Priority), "weight", number(x.Weight)))
	}
	want := strings.Join(jsonParts(object("group", text(g.Name), "max_age", number(g.Age), "endpoints", list(items...))), "")
	if s, code := impl.ReportToText(g); s != want || code != impl.OK {
		t.Errorf("ReportToText = %q, %d, not %q", s, code, want)
	}
	readsReportTo(t, want, g)
}

// noGroup checks that every function refuses a group that is invalid.
func noGroup(t *testing.T, g impl.Group) {
	t.Helper()
	if impl.GroupOK(g) {
		t.Errorf("GroupOK: %s is invalid", briefGroup(g))
	}
	valid := endpoint("a", "https://x/")
	if impl.SameGroup(g, g) || impl.SameGroup(g, valid) || impl.SameGroup(valid, g) {
		t.Errorf("SameGroup: %s is invalid", briefGroup(g))
	}
	if s, code := impl.ReportToText(g); s != "" || code != impl.ErrBad {
		t.Errorf("ReportToText(%s) = %.200q, %d", briefGroup(g), s, code)
	}
	noEndpoint(t, g)
}

// noEndpoint checks that EndpointsText refuses g, wherever it is in a list.
func noEndpoint(t *testing.T, g impl.Group) {
	t.Helper()
	valid := endpoint("b", "https://y/")
	for _, groups := range [][]impl.Group{{g}, {g, valid}, {valid, g}, {valid, valid, valid, g}} {
		if s, code := impl.EndpointsText(groups); s != "" || code != impl.ErrBad {
			t.Errorf("EndpointsText of %d groups with %s = %.200q, %d", len(groups), briefGroup(g), s, code)
		}
	}
}

func readsEndpoints(t *testing.T, header string, want ...impl.Group) {
	t.Helper()
	groups, code := impl.ReadEndpoints(header)
	if !slices.EqualFunc(groups, want, sameGroup) || code != impl.OK {
		t.Errorf("ReadEndpoints(%.200q) = %+v, %d, not %+v", header, groups, code, want)
	}
}

func refusesEndpoints(t *testing.T, header string, want int) {
	t.Helper()
	if groups, code := impl.ReadEndpoints(header); len(groups) != 0 || code != want {
		t.Errorf("ReadEndpoints(%.200q) = %+v, %d, not %d", header, groups, code, want)
	}
}

func readsReportTo(t *testing.T, header string, want impl.Group) {
	t.Helper()
	if g, code := impl.ReadReportTo(header); !sameGroup(g, want) || code != impl.OK {
		t.Errorf("ReadReportTo(%.300q) = %s, %d, not %s", header, briefGroup(g), code, briefGroup(want))
	}
}

func refusesReportTo(t *testing.T, header string, want int) {
	t.Helper()
	if g, code := impl.ReadReportTo(header); !isNoGroup(g) || code != want {
		t.Errorf("ReadReportTo(%.300q) = %s, %d, not %d", header, briefGroup(g), code, want)
	}
}

func TestHeaderConstants(t *testing.T) {
	if impl.MaxTargets != 4 || impl.MaxAge != 100 {
		t.Error("a constant of chapter 4 is wrong")
	}
}

func TestGroupNames(t *testing.T) {
	for _, name := range []string{"a", "Z", "_", "csp", "default", "uri", "a9", "__", "abcdefghijkl", "_23456789012"} {
		isGroup(t, group(name, 20, targets(2)...))
	}
	for _, name := range []string{"", "9", "9a", "a b", " a", "a ", "a-b", "a=", "\"a\"", "a\x00", "é", "\x80", "abcdefghijklm", strings.Repeat("a", impl.MaxText+1)} {
		noGroup(t, group(name, 20, targets(2)...))
	}
}

func TestGroupAges(t *testing.T) {
	for _, age := range []int{1, 2, 50, 99, 100} {
		isGroup(t, group("a", age, targets(1)...))
	}
	for _, age := range []int{math.MinInt, -100, -1, 0, 101, 102, 1<<32 + 1, math.MaxInt} {
		noGroup(t, group("a", age, targets(1)...))
	}
}

func TestTargetCounts(t *testing.T) {
	for _, n := range []int{1, 2, 3, 4} {
		isGroup(t, group("a", 5, targets(n)...))
	}
	for _, n := range []int{0, 5, 6, 100, impl.MaxList, impl.MaxList + 1} {
		noGroup(t, group("a", 5, targets(n)...))
	}
	noGroup(t, impl.Group{})
	noGroup(t, impl.Group{Name: "a", Age: 5, Targets: []impl.Target{}})
	noGroup(t, impl.Group{Name: "a", Age: 5, Targets: make([]impl.Target, 1)})
}

// TestTargetRanks sets the Priority and the Weight of each of the targets.
func TestTargetRanks(t *testing.T) {
	for n := 1; n <= 4; n++ {
		for i := range n {
			for _, rank := range []int{1, 2, 5, 8, 9} {
				g := group("a", 5, targets(n)...)
				g.Targets[i].Priority = rank
				isGroup(t, g)
				g.Targets[i].Weight = rank
				isGroup(t, g)
			}
			for _, rank := range []int{math.MinInt, -9, -1, 0, 10, 11, 1<<32 + 1, math.MaxInt} {
				g := group("a", 5, targets(n)...)
				g.Targets[i].Priority = rank
				noGroup(t, g)
				g = group("a", 5, targets(n)...)
				g.Targets[i].Weight = rank
				noGroup(t, g)
			}
		}
	}
}

func TestTargetUrls(t *testing.T) {
	for _, url := range cleanTexts {
		for i := range 4 {
			g := group("a", 5, targets(4)...)
			g.Targets[i].Url = url
			isGroup(t, g)
		}
	}
	bad := slices.Clone(noCleanTexts)
	for _, v := range uncleanTexts {
		bad = append(bad, v.text)
	}
	for _, url := range bad {
		for i := range 4 {
			g := group("a", 5, targets(4)...)
			g.Targets[i].Url = url
			noGroup(t, g)
		}
	}
}

// TestDifferentUrls: two targets differ only if their Urls do.
func TestDifferentUrls(t *testing.T) {
	for n := 2; n <= 4; n++ {
		for i := range n {
			for j := range i {
				g := group("a", 5, targets(n)...)
				g.Targets[i].Url = g.Targets[j].Url
				noGroup(t, g)
				g.Targets[i] = g.Targets[j]
				noGroup(t, g)
			}
		}
	}
	isGroup(t, group("a", 5, target("https://x/", 1, 1), target("http://x/", 1, 1), target("https://x/?", 1, 1), target("https://u@x/", 1, 1)))
	isGroup(t, group("a", 5, target("https://x/a", 1, 1), target("https://x/A", 1, 1), target("https://x/a/", 1, 1), target("https://x:80/a", 1, 1)))
}

// TestSameGroups: of different valid groups no two are the same.
func TestSameGroups(t *testing.T) {
	x, y := target("https://x/", 1, 1), target("https://y/", 1, 1)
	groups := func() []impl.Group {
		return []impl.Group{
			group("a", 100, x), group("b", 100, x), group("A", 100, x), group("aa", 100, x), group("a", 99, x), group("a", 1, x),
			group("a", 100, y), group("a", 100, x, y), group("a", 100, y, x), group("a", 100, target("https://x/", 2, 1)), group("a", 100, target("https://x/", 1, 2)),
			group("a", 100, x, target("https://y/", 1, 9)), group("a", 100, target("https://x/?", 1, 1)), group("a", 100, target("https://xx/", 1, 1)),
		}
	}
	for i, a := range groups() {
		for j, b := range groups() {
			if impl.SameGroup(a, b) != (i == j) {
				t.Errorf("SameGroup(%+v, %+v) is not %v", a, b, i == j)
			}
		}
	}
}

// longUrl returns a web URL whose text has n bytes.
func longUrl(n int) string { return padded("https://x/", n) }

var (
	// cleanTexts are their own clean URLs.
	cleanTexts = []string{
		"https://x/", "http://x/", "https://a.example/p", "http://u:p@a-1.example:8080/p/q?k=v", "https://x/?", "https://x/??/", "http://x:443/", "https://x:80/",
		"https://x:65535/", "https://x/~!$&'()*+;=:@[]^`{|}", "https://x//", "https://u;x@x/", longUrl(100),
	}

	// uncleanTexts have clean URLs that differ from them.
	uncleanTexts = []struct{ text, clean string }{
		{"https://x", "https://x/"}, {"http://x?q", "http://x/?q"}, {"https://x?", "https://x/?"},
		{"HTTPS://x/", "https://x/"}, {"hTTp://X.Example/P?Q", "http://x.example/P?Q"}, {"https://U@X/", "https://U@x/"},
		{"https://x:443/", "https://x/"}, {"http://x:80/p", "http://x/p"}, {"https://@x/", "https://x/"},
		{"https://x/#", "https://x/"}, {"https://x/#f", "https://x/"}, {"https://x#f", "https://x/"}, {"https://x/p?q#f#g?h/i", "https://x/p?q"}, {"https://x/?#", "https://x/?"},
		{longUrl(98) + "#f", longUrl(98)}, {longUrl(99) + "#", longUrl(99)}, {"https://" + strings.Repeat("x", 91), "https://" + strings.Repeat("x", 91) + "/"},
	}

	// noCleanTexts have no clean URL.
	noCleanTexts = []string{
		"", " ", "x", "/", "//x/", "x/", ":", "://x/", "https", "https:", "https:/", "https://", "https:///", "https:x", "https:/x/",
		"data:x", "data:", "about:blank", "blob:https://x/", "httpss://x/", "h:", "ftp://x/", "file:///x", "HTTPX://x/",
		" https://x/", "https://x/ ", "https://x /", "https://x/ y", "https://x/\t", "https://x/\n", "https://x/\x00", "https://x/\x7f", "https://x/\x80", "https://x/é", "https://é/", "https://x/#é", "https://x/# ",
		"https://-x/", "https://x-/", "https://x..y/", "https://x_y/", "https://x:0/", "https://x:/", "https://x:65536/", "https://x:080/", "https://x:-1/", "https://x:a/", "https://a@b@c/", "1https://x/",
		longUrl(101), longUrl(100) + "#", longUrl(99) + "#f", "https://" + strings.Repeat("x", 92),
	}
)

// TestCleanUrls reads texts in both headers.
func TestCleanUrls(t *testing.T) {
	for _, s := range cleanTexts {
		readsEndpoints(t, `a="`+s+`"`, endpoint("a", s))
		readsReportTo(t, `{"max_age":5,"endpoints":[{"url":`+quotedByModel(s)+`}]}`, group("default", 5, target(s, 1, 1)))
	}
	for _, v := range uncleanTexts {
		readsEndpoints(t, `a="`+v.text+`"`, endpoint("a", v.clean))
		readsReportTo(t, `{"max_age":5,"endpoints":[{"url":`+quotedByModel(v.text)+`}]}`, group("default", 5, target(v.clean, 1, 1)))
	}
	for _, s := range noCleanTexts {
		readsEndpoints(t, `a="`+s+`"`)
		readsEndpoints(t, `a="https://x/",b="https://y/",a="`+s+`"`, endpoint("b", "https://y/"))
		refusesReportTo(t, `{"max_age":5,"endpoints":[{"url":`+quotedByModel(s)+`}]}`, impl.ErrNone)
		readsReportTo(t, `{"max_age":5,"endpoints":[{"url":`+quotedByModel(s)+`},{"url":"http://y"}]}`, group("default", 5, target("http://y/", 1, 1)))
	}
}

func TestEndpoints(t *testing.T) {
	x, y, z := "https://x/", "http://y/p?q", "https://u@z:1/"
	for _, v := range []struct {
		header string
		want   []impl.Group
	}{
		{`csp="https://r.test"`, []impl.Group{endpoint("csp", "https://r.test/")}},
		{`a="https://x/",b="http://y/p?q"`, []impl.Group{endpoint("a", x), endpoint("b", y)}},
		{`b="http://y/p?q" , a="https://x/"`, []impl.Group{endpoint("b", y), endpoint("a", x)}},
		{`a="https://x/", b="https://x/"`, []impl.Group{endpoint("a", x), endpoint("b", x)}},
		{`a="https://x/", A="http://y/p?q", _="https://u@z:1/", a_="https://x"`, []impl.Group{endpoint("a", x), endpoint("A", y), endpoint("_", z), endpoint("a_", x)}},
		{`abcdefghijkl="https://x/"`, []impl.Group{endpoint("abcdefghijkl", x)}},
		{`a="https://x/=",b="https://x/?a=b"`, []impl.Group{endpoint("a", "https://x/="), endpoint("b", "https://x/?a=b")}},
		{`a=""`, nil},
		{`a="",b="",a=""`, nil},
		{`a="=",b="https://x/"`, []impl.Group{endpoint("b", x)}},
	} {
		readsEndpoints(t, v.header, v.want...)
	}
}

// TestEndpointsTwice: what a name means that occurs more than once.
func TestEndpointsTwice(t *testing.T) {
	a, b, c := endpoint("a", "https://x/"), endpoint("b", "https://y/"), endpoint("c", "https://z/")
	second := endpoint("a", "https://second/")
	for _, v := range []struct {
		header string
		want   []impl.Group
	}{
		{`a="https://x/",a="https://x/"`, []impl.Group{a}},
		{`a="https://x/",a="https://second/"`, []impl.Group{second}},
		{`a="https://x/",b="https://y/",a="https://second/"`, []impl.Group{second, b}},
		{`b="https://y/",a="https://x/",c="https://z/",a="https://second/"`, []impl.Group{b, second, c}},
		{`a="https://1/",a="https://second/",a="https://x/"`, []impl.Group{a}},
		{`a="https://1/",b="https://2/",a="https://3/",b="https://y/",a="https://x/"`, []impl.Group{a, b}},
		{`a="https://x/",a="x"`, nil},
		{`a="x",a="https://x/"`, []impl.Group{a}},
		{`a="x",a="x",a="https://x/"`, []impl.Group{a}},
		{`a="https://x/",a="x",a="x"`, nil},
		{`a="https://x/",b="https://y/",a="data:x"`, []impl.Group{b}},
		{`a="https://x/",b="https://y/",b=""`, []impl.Group{a}},
		{`a="https://x/",b="",c="https://z/"`, []impl.Group{a, c}},
		// What is removed and defined again comes last.
		{`a="https://x/",b="https://y/",a="x",a="https://second/"`, []impl.Group{b, second}},
		{`a="https://1/",b="https://y/",a="x",c="https://z/",a="https://2/",a="https://x/"`, []impl.Group{b, c, a}},
		{`a="https://1/",b="https://2/",c="https://z/",a="x",b="x",b="https://y/",a="https://x/"`, []impl.Group{c, b, a}},
		// Names are compared with upper and lower case, and whole.
		{`a="https://x/",A="x",aa="x",_a="x"`, []impl.Group{a}},
	} {
		readsEndpoints(t, v.header, v.want...)
	}
}

// TestEndpointsInEveryOrder reads all headers of up to five parts that define
// or remove one of two names.
func TestEndpointsInEveryOrder(t *testing.T) {
	parts := []string{`a="https://x/"`, `a="https://y/"`, `a="data:x"`, `b="https://x/"`, `b="https://y/"`, `b=""`}
	headers := [][]string{nil}
	for range 5 {
		var longer [][]string
		for _, header := range headers {
			for _, part := range parts {
				longer = append(longer, append(slices.Clone(header), part))
			}
		}
		for _, header := range longer {
			if checkEndpoints(t, strings.Join(header, ", ")) != impl.OK {
				t.Fatalf("%q has groups", header)
			}
		}
		headers = longer
	}
}

func TestEndpointSpaces(t *testing.T) {
	a, b := endpoint("a", "https://x/"), endpoint("b", "https://y/")
	ends := []string{"", " ", "\t", "  ", " \t", "\t ", " \t\t ", strings.Repeat(" \t", 100)}
	for _, before := range ends {
		for _, behind := range ends {
			readsEndpoints(t, before+`a="https://x/"`+behind, a)
			readsEndpoints(t, before+`a="https://x/"`+behind+","+before+`b="https://y/"`+behind, a, b)
			readsEndpoints(t, before+`a="https://x/"`+behind+","+behind+`a=""`+before)
		}
	}
	for _, space := range ends[1:] {
		for _, part := range []string{"a%s=\"https://x/\"", "a=%s\"https://x/\"", "a%sb=\"https://x/\"", "a=\"https://x/\"%sb", "a=\"https://x/\"%s\""} {
			refusesEndpoints(t, fmt.Sprintf(part, space), impl.ErrForm)
			refusesEndpoints(t, `b="https://y/",`+fmt.Sprintf(part, space), impl.ErrForm)
		}
		// Between the quotes everything is allowed, but it is no URL.
		for _, inside := range []string{space, space + "https://x/", "https://x/" + space, "https:" + space + "//x/", "https://x/" + space + "p"} {
			readsEndpoints(t, `a="`+inside+`"`)
			readsEndpoints(t, `b="https://y/",a="https://x/", a="`+inside+`"`, b)
		}
	}
	for _, other := range []string{"\n", "\r", "\v", "\f", "\x00", "\u00a0", "\u2003", "\x85", "\xa0", "-", "\"", ";", "="} {
		refusesEndpoints(t, other, impl.ErrForm)
		refusesEndpoints(t, " "+other+" ", impl.ErrForm)
		refusesEndpoints(t, other+`a="https://x/"`, impl.ErrForm)
		refusesEndpoints(t, `a="https://x/"`+other, impl.ErrForm)
		refusesEndpoints(t, `a="https://x/" `+other+" ", impl.ErrForm)
		refusesEndpoints(t, `a="https://x/",`+other, impl.ErrForm)
	}
}

func TestEmptyEndpoints(t *testing.T) {
	for _, blank := range []string{"", " ", "\t", " \t ", "\t\t\t", strings.Repeat(" ", impl.MaxText), strings.Repeat("\t ", impl.MaxText/2)} {
		readsEndpoints(t, blank)
		if len(blank) < 100 {
			refusesEndpoints(t, blank+","+blank, impl.ErrForm)
			refusesEndpoints(t, blank+`,a="https://x/"`, impl.ErrForm)
			refusesEndpoints(t, `a="https://x/",`+blank, impl.ErrForm)
			refusesEndpoints(t, `a="https://x/",`+blank+`,b="https://x/"`, impl.ErrForm)
		}
	}
	refusesEndpoints(t, strings.Repeat(" ", impl.MaxText+1), impl.ErrLong)
}

func TestMalformedEndpoints(t *testing.T) {
	for _, part := range []string{
		"a", "=", "a=", `"`, `""`, `a"https://x/"`, `="https://x/"`, `a=https://x/`, `a="`, `a="https://x/`, `a=https://x/"`, `a='https://x/'`, `a=""https://x/"`, `a=""https://x/""`, `a="https://"x/"`, `a="https://x/"b`,
		`a="https://x/\"`, `a="\https://x/"`, `a="https:\//x/"`, `a="\""`, `a="""`, `a=""""`, `a="a"="b"`, `a=b="https://x/"`, `a=="https://x/"`, `a="https://x/";b="https://y/"`, `a="https://x/" b="https://y/"`, `a="https://x/";`,
		`1="https://x/"`, `1a="https://x/"`, `a-b="https://x/"`, `a.b="https://x/"`, `é="https://x/"`, "\x80=\"https://x/\"", "a\x00=\"https://x/\"", `"a"="https://x/"`, `abcdefghijklm="https://x/"`, `a b="https://x/"`, `*="https://x/"`,
		// A comma splits strings too.
		`a="https://x/,y"`, `a=","`, `a="https://x/?a,b=c"`,
	} {
		refusesEndpoints(t, part, impl.ErrForm)
		refusesEndpoints(t, `b="https://y/",`+part, impl.ErrForm)
		refusesEndpoints(t, part+`,b="https://y/"`, impl.ErrForm)
		refusesEndpoints(t, `b="https://y/",`+part+`,b="x"`, impl.ErrForm)
	}
}

// defined returns parts that define n groups, named from the given letter on.
func defined(from byte, n int) string {
	var parts []string
	for i := range n {
		parts = append(parts, fmt.Sprintf(`%c="https://x%d/"`, from+byte(i), i))
	}
	return strings.Join(parts, ",")
}

func TestTooManyEndpoints(t *testing.T) {
	four := []impl.Group{endpoint("a", "https://x0/"), endpoint("b", "https://x1/"), endpoint("c", "https://x2/"), endpoint("d", "https://x3/")}
	readsEndpoints(t, defined('a', 4), four...)
	for _, n := range []int{5, 6, 26} {
		refusesEndpoints(t, defined('a', n), impl.ErrMany)
		refusesEndpoints(t, defined('a', n)+`,a="x",z1="https://x/"`, impl.ErrMany)
	}
	// Too many on the way only.
	readsEndpoints(t, defined('a', 5)+`,e="x"`, four...)
	readsEndpoints(t, defined('a', 5)+`,a=""`, append(four[1:4:4], endpoint("e", "https://x4/"))...)
	readsEndpoints(t, defined('a', 7)+`,g="",e="",f="data:x"`, four...)
	readsEndpoints(t, defined('a', 4)+","+defined('a', 4)+","+defined('a', 4), four...)
	readsEndpoints(t, defined('a', 5)+`,e="x",e="y",e="z"`, four...)
	readsEndpoints(t, defined('a', 4)+`,e="x"`, four...)
	readsEndpoints(t, `e="x",`+defined('a', 4), four...)
	refusesEndpoints(t, defined('a', 5)+`,e="x",e="https://x/"`, impl.ErrMany)
	refusesEndpoints(t, defined('a', 5)+`,f="x"`, impl.ErrMany)
	// A malformed part decides, wherever it is.
	refusesEndpoints(t, defined('a', 5)+",a", impl.ErrForm)
	refusesEndpoints(t, "a,"+defined('a', 5), impl.ErrForm)
	refusesEndpoints(t, defined('a', 26)+`, ,a=""`, impl.ErrForm)
}

func TestLongEndpoints(t *testing.T) {
	a := endpoint("a", "https://x/")
	for _, part := range []string{`a="https://x/"`, `a="https://x/"` + strings.Repeat(`,b=""`, 1000)} {
		n := impl.MaxText - len(part)
		readsEndpoints(t, part+strings.Repeat(" ", n), a)
		readsEndpoints(t, strings.Repeat("\t", n)+part, a)
		refusesEndpoints(t, part+strings.Repeat(" ", n+1), impl.ErrLong)
		refusesEndpoints(t, strings.Repeat(" ", n+1)+part, impl.ErrLong)
	}
	readsEndpoints(t, `a="https://x/",b="`+strings.Repeat("x", impl.MaxText-19)+`"`, a)
	refusesEndpoints(t, `a="https://x/",b="`+strings.Repeat("x", impl.MaxText-18)+`"`, impl.ErrLong)
	refusesEndpoints(t, strings.Repeat("a", impl.MaxText), impl.ErrForm)
	refusesEndpoints(t, strings.Repeat(",", impl.MaxText), impl.ErrForm)
	refusesEndpoints(t, strings.Repeat(",", impl.MaxText+1), impl.ErrLong)
	refusesEndpoints(t, strings.Repeat("a", 1<<20), impl.ErrLong)
	// As many groups as a header has room for, defined and then removed.
	var parts []string
	for i := range 2000 {
		parts = append(parts, fmt.Sprintf(`n%d="http://x"`, i))
	}
	refusesEndpoints(t, strings.Join(parts, ","), impl.ErrMany)
	for i := range 1999 {
		parts = append(parts, fmt.Sprintf(`n%d=""`, i))
	}
	readsEndpoints(t, strings.Join(parts, ","), endpoint("n1999", "http://x/"))
}

func TestEndpointsText(t *testing.T) {
	a, b := endpoint("a", "https://x/"), endpoint("b", "http://u:p@y:8080/p?q=r")
	c, d := endpoint("_c9", "https://x/"), endpoint("D", longUrl(100))
	for _, v := range []struct {
		groups []impl.Group
		header string
	}{
		{nil, ""},
		{[]impl.Group{}, ""},
		{[]impl.Group{a}, `a="https://x/"`},
		{[]impl.Group{a, b}, `a="https://x/", b="http://u:p@y:8080/p?q=r"`},
		{[]impl.Group{b, a}, `b="http://u:p@y:8080/p?q=r", a="https://x/"`},
		{[]impl.Group{d, c, b, a}, `D="` + longUrl(100) + `", _c9="https://x/", b="http://u:p@y:8080/p?q=r", a="https://x/"`},
	} {
		if s, code := impl.EndpointsText(v.groups); s != v.header || code != impl.OK {
			t.Errorf("EndpointsText = %q, %d, not %q", s, code, v.header)
		}
		readsEndpoints(t, v.header, v.groups...)
	}
}

// TestEqualNamesInEndpointsText: chapter 4 speaks of each group by itself, so a
// list may contain a name twice, but only the last of these is read again.
func TestEqualNamesInEndpointsText(t *testing.T) {
	first, last := endpoint("a", "https://x/"), endpoint("a", "https://y/")
	want := `a="https://x/", a="https://y/"`
	if s, code := impl.EndpointsText([]impl.Group{first, last}); s != want || code != impl.OK {
		t.Errorf("EndpointsText = %q, %d, not %q", s, code, want)
	}
	readsEndpoints(t, want, last)
}

// TestNoEndpoints: groups, valid or not, that ReadEndpoints does not return.
func TestNoEndpoints(t *testing.T) {
	x := target("https://x/", 1, 1)
	for _, g := range []impl.Group{
		group("a", 99, x), group("a", 1, x), group("a", 100, targets(2)...), group("a", 100, x, target("https://y/", 1, 1)), group("a", 100, target("https://x/", 2, 1)), group("a", 100, target("https://x/", 1, 2)), group("a", 100, target("https://x/", 9, 9)),
		endpoint("a", `https://x/"`), endpoint("a", `https://x/\`), endpoint("a", `https://x/,`), endpoint("a", `https://x/?a,b`), endpoint("a", `https://x/?"`), endpoint("a", `https://x/?\`), endpoint("a", `https://u,v@x/`), endpoint("a", `https://"@x/`), endpoint("a", `https://\@x/`),
	} {
		isGroup(t, g)
		noEndpoint(t, g)
	}
	for _, g := range []impl.Group{
		{}, endpoint("", "https://x/"), endpoint("a b", "https://x/"), endpoint("abcdefghijklm", "https://x/"), group("a", 101, x), group("a", 0, x), group("a", 100), group("a", 100, x, x), group("a", 100, targets(5)...),
		endpoint("a", "https://x"), endpoint("a", "https://x/#f"), endpoint("a", "data:x"), endpoint("a", ""), endpoint("a", "x"), group("a", 100, target("https://x/", 0, 1)), group("a", 100, target("https://x/", 1, 0)), group("a", 100, target("https://x/", 10, 1)), group("a", 100, target("https://x/", 1, 10)),
	} {
		noGroup(t, g)
	}
}

func TestManyEndpointsText(t *testing.T) {
	valid := slices.Repeat([]impl.Group{endpoint("a", "https://x/")}, impl.MaxList+2)
	for i := range valid {
		valid[i].Name = fmt.Sprint("n", i)
	}
	for _, groups := range [][]impl.Group{valid, make([]impl.Group, impl.MaxList+2)} {
		for _, n := range []int{5, 6, 100, impl.MaxList} {
			if s, code := impl.EndpointsText(groups[:n]); s != "" || code != impl.ErrMany {
				t.Errorf("EndpointsText of %d groups = %.100q, %d", n, s, code)
			}
		}
		for _, n := range []int{impl.MaxList + 1, impl.MaxList + 2} {
			if s, code := impl.EndpointsText(groups[:n]); s != "" || code != impl.ErrLong {
				t.Errorf("EndpointsText of %d groups = %.100q, %d", n, s, code)
			}
		}
	}
}

func TestReportTo(t *testing.T) {
	x, y := target("https://x/", 1, 1), target("https://y/p", 2, 9)
	for _, v := range []struct {
		header string
		want   impl.Group
	}{
		{`{"group":"csp","max_age":20,"endpoints":[{"url":"https://x/","priority":1,"weight":1},{"url":"https://y/p","priority":2,"weight":9}]}`, group("csp", 20, x, y)},
		{`{"endpoints":[{"weight":9,"priority":2,"url":"https://y/p"},{"url":"https://x"}],"group":"csp","max_age":20}`, group("csp", 20, y, x)},
		{`{"max_age":100,"endpoints":[{"url":"https://x/"}]}`, group("default", 100, x)},
		{`{"max_age":1,"group":"default","endpoints":[{"url":"https://x/"}]}`, group("default", 1, x)},
		{"\t{ \"max_age\" : 1 ,\r\n\"endpoints\":[ { \"url\" : \"https:\\/\\/x\\/\" } ] } ", group("default", 1, x)},
		{`{"gr\u006fup":"\u0061","max_age":1,"endpoints":[{"url":"https://x/"}]}`, group("a", 1, x)},
		// Members with other names, and those of inner objects, mean nothing.
		{`{"Group":1,"max-age":0,"url":"https://z/","":null,"endpoint":[],"max_age":5,"endpoints":[{"url":"https://x/","group":"b","Priority":0,"x":{}}]}`, group("default", 5, x)},
		{`{"a":{"group":"b","max_age":1},"max_age":5,"endpoints":[{"url":"https://x/"}]}`, group("default", 5, x)},
	} {
		readsReportTo(t, v.header, v.want)
	}
}

// TestReportToJson: the codes of ReadJson, and values that are no objects.
func TestReportToJson(t *testing.T) {
	const rest = `,"max_age":5,"endpoints":[{"url":"https://x/"}]}`
	for _, v := range []struct {
		header string
		code   int
	}{
		{"", impl.ErrForm}, {" ", impl.ErrForm}, {"x", impl.ErrForm}, {"{", impl.ErrForm}, {`{"a":1`, impl.ErrForm}, {`{"a":1` + rest + ",", impl.ErrForm}, {`{"a":1` + rest + "{}", impl.ErrForm}, {"{\"a\":\"\x80\"" + rest, impl.ErrForm}, {`{"a":1.5` + rest, impl.ErrForm}, {`{'a':1` + rest, impl.ErrForm},
		{`{"a":1000000000` + rest, impl.ErrRange}, {`{"a":1,"a":1` + rest, impl.ErrAgain}, {`{"group":"a","group":"a"` + rest, impl.ErrAgain}, {`{"max_age":5` + rest, impl.ErrAgain}, {`{"a":[[[[]]]]` + rest, impl.ErrDeep}, {`{"a":"` + strings.Repeat("a", 121) + `"` + rest, impl.ErrSize}, {`{"a":[` + joined(13, "1") + "]" + rest, impl.ErrMany},
		{`{"max_age":5,"endpoints":[` + joined(13, `{"url":"https://x/"}`) + "]}", impl.ErrMany}, {`{"max_age":5,"endpoints":[{"url":"https://x/","url":"https://x/"}]}`, impl.ErrAgain},
		{"null", impl.ErrKind}, {"true", impl.ErrKind}, {"5", impl.ErrKind}, {`"group"`, impl.ErrKind}, {"[]", impl.ErrKind}, {`[{"max_age":5,"endpoints":[{"url":"https://x/"}]}]`, impl.ErrKind},
		{`[{"url":"https://x/"}]`, impl.ErrKind}, {"[1,1000000000]", impl.ErrRange},
		{"{}", impl.ErrRange}, {" { } ", impl.ErrRange},
	} {
		refusesReportTo(t, v.header, v.code)
	}
	valid := `{"a":1` + rest
	readsReportTo(t, valid, group("default", 5, target("https://x/", 1, 1)))
	space := strings.Repeat(" ", impl.MaxText)
	readsReportTo(t, valid+space[len(valid):], group("default", 5, target("https://x/", 1, 1)))
	readsReportTo(t, space[len(valid):]+valid, group("default", 5, target("https://x/", 1, 1)))
	refusesReportTo(t, valid+space[len(valid):]+" ", impl.ErrLong)
	refusesReportTo(t, space[len(valid):]+" "+valid, impl.ErrLong)
	for _, s := range []string{"{", "x", " ", "[", "\xff"} {
		refusesReportTo(t, strings.Repeat(s, impl.MaxText+1), impl.ErrLong)
		refusesReportTo(t, strings.Repeat(s, 1<<20), impl.ErrLong)
	}
}

// member is a member of a header with the code that it causes and, without a
// code, what it means.
type member struct {
	text string
	code int
	name string
	age  int
}

func reportToMembers() (names, ages, endpoints []member) {
	names = []member{{text: "", name: "default"}}
	for _, name := range []string{"default", "a", "_", "Z9", "abcdefghijkl", "uri"} {
		names = append(names, member{text: `"group":"` + name + `"`, name: name})
	}
	for _, value := range []string{"null", "true", "false", "0", "1", `""`, `" "`, `"a b"`, `"9a"`, `"abcdefghijklm"`, `"a\u0000"`, `"\u00e9"`, `"` + strings.Repeat("a", 120) + `"`, "[]", `["a"]`, "{}", `{"a":"a"}`} {
		names = append(names, member{text: `"group":` + value, code: impl.ErrName})
	}
	for _, age := range []int{1, 2, 99, 100} {
		ages = append(ages, member{text: fmt.Sprint(`"max_age":`, age), age: age})
	}
	ages = append(ages, member{text: "", code: impl.ErrRange})
	for _, value := range []string{"0", "-1", "101", "-100", "999999999", "-999999999", "null", "true", `"5"`, `""`, "[]", "[5]", "{}", `{"max_age":5}`} {
		ages = append(ages, member{text: `"max_age":` + value, code: impl.ErrRange})
	}
	endpoints = []member{{text: `"endpoints":[{"url":"https://x/","priority":3,"weight":4}]`}, {text: "", code: impl.ErrKind}}
	for _, value := range []string{"null", "true", "5", `""`, `"https://x/"`, "{}", `{"url":"https://x/"}`} {
		endpoints = append(endpoints, member{text: `"endpoints":` + value, code: impl.ErrKind})
	}
	for _, value := range []string{"[]", "[null]", "[[]]", `[{"url":"data:x"},1]`} {
		endpoints = append(endpoints, member{text: `"endpoints":` + value, code: impl.ErrNone})
	}
	five := `[{"url":"https://a"},{"url":"https://b"},{"url":"https://c"},{"url":"https://d"},{"url":"https://e"}]`
	endpoints = append(endpoints, member{text: `"endpoints":` + five, code: impl.ErrMany})
	return names, ages, endpoints
}

// TestReportToMembers combines every group with every max_age and every list
// of endpoints, in every order: of several errors, the one that chapter 4
// lists first decides, wherever it is in the text.
func TestReportToMembers(t *testing.T) {
	names, ages, endpoints := reportToMembers()
	for _, name := range names {
		for _, age := range ages {
			for _, list := range endpoints {
				for _, members := range [][]string{
					{name.text, age.text, list.text}, {name.text, list.text, age.text}, {age.text, name.text, list.text},
					{age.text, list.text, name.text}, {list.text, name.text, age.text}, {list.text, age.text, name.text},
				} {
					members = slices.DeleteFunc(members, func(s string) bool { return s == "" })
					header := "{" + strings.Join(members, ",") + "}"
					code := slices.IndexFunc([]int{name.code, age.code, list.code}, func(code int) bool { return code != impl.OK })
					if code >= 0 {
						refusesReportTo(t, header, []int{name.code, age.code, list.code}[code])
						refusesReportTo(t, "["+header+"]", impl.ErrKind)
						refusesReportTo(t, header+"x", impl.ErrForm)
					} else {
						readsReportTo(t, header, group(name.name, age.age, target("https://x/", 3, 4)))
					}
				}
			}
		}
	}
}

// TestIgnoredEndpoints puts items that are no targets between some that are.
func TestIgnoredEndpoints(t *testing.T) {
	x, y := target("https://x/", 1, 1), target("https://y/", 1, 1)
	ignored := []string{
		"null", "true", "0", `""`, `"https://z/"`, "[]", `["https://z/"]`, `[{"url":"https://z/"}]`, "{}",
		`{"url":null}`, `{"url":true}`, `{"url":1}`, `{"url":[]}`, `{"url":["https://z/"]}`, `{"url":{}}`, `{"url":{"url":"https://z/"}}`, `{"Url":"https://z/"}`, `{"u":"https://z/"}`, `{"":"https://z/"}`,
		`{"priority":1,"weight":1}`, `{"url":"","priority":1}`, `{"url":"x"}`, `{"url":"data:x"}`, `{"url":"https://z/ "}`, `{"url":"https://z:0/"}`,
	}
	for _, rank := range []string{"0", "10", "11", "-1", "-9", "999999999", "null", "true", "false", `"1"`, `""`, "[]", "[1]", "{}"} {
		ignored = append(ignored, `{"url":"https://z/","priority":`+rank+"}", `{"weight":`+rank+`,"url":"https://z/"}`, `{"url":"https://z/","priority":`+rank+`,"weight":1}`, `{"url":"https://z/","priority":1,"weight":`+rank+"}", `{"url":"https://z/","priority":`+rank+`,"weight":`+rank+"}")
	}
	for _, item := range ignored {
		refusesReportTo(t, `{"max_age":5,"endpoints":[`+item+"]}", impl.ErrNone)
		refusesReportTo(t, `{"max_age":5,"endpoints":[`+joined(12, item)+"]}", impl.ErrNone)
		readsReportTo(t, `{"max_age":5,"endpoints":[`+item+`,{"url":"https://x/"}]}`, group("default", 5, x))
		readsReportTo(t, `{"max_age":5,"endpoints":[{"url":"https://x/"},`+item+"]}", group("default", 5, x))
		readsReportTo(t, `{"max_age":5,"endpoints":[`+item+`,{"url":"https://x/"},`+joined(9, item)+`,{"url":"https://y/"}]}`, group("default", 5, x, y))
		// What is ignored is not among the targets: its URL may come again.
		readsReportTo(t, `{"max_age":5,"endpoints":[`+item+`,{"url":"https://z/","weight":7}]}`, group("default", 5, target("https://z/", 1, 7)))
	}
}

func TestEndpointRanks(t *testing.T) {
	for _, rank := range []int{1, 2, 5, 8, 9} {
		readsReportTo(t, fmt.Sprintf(`{"max_age":5,"endpoints":[{"url":"https://x/","priority":%d}]}`, rank), group("default", 5, target("https://x/", rank, 1)))
		readsReportTo(t, fmt.Sprintf(`{"max_age":5,"endpoints":[{"url":"https://x/","weight":%d}]}`, rank), group("default", 5, target("https://x/", 1, rank)))
		readsReportTo(t, fmt.Sprintf(`{"max_age":5,"endpoints":[{"weight":%d,"url":"https://x/","priority":%d}]}`, 10-rank, rank), group("default", 5, target("https://x/", rank, 10-rank)))
	}
}

// TestEndpointsThatOccurTwice: the first item with a clean URL is the target.
func TestEndpointsThatOccurTwice(t *testing.T) {
	for _, again := range []string{"https://x/", "https://x", "HTTPS://X/", "https://x:443", "https://x/#f", "https://@x#"} {
		item := `{"url":"` + again + `","priority":2,"weight":3}`
		readsReportTo(t, `{"max_age":5,"endpoints":[{"url":"https://x/"},`+item+"]}", group("default", 5, target("https://x/", 1, 1)))
		readsReportTo(t, `{"max_age":5,"endpoints":[`+item+`,{"url":"https://x/"}]}`, group("default", 5, target("https://x/", 2, 3)))
		readsReportTo(t, `{"max_age":5,"endpoints":[{"url":"https://y/"},`+joined(10, item)+`,{"url":"https://y/"}]}`, group("default", 5, target("https://y/", 1, 1), target("https://x/", 2, 3)))
	}
	for _, other := range []string{"https://x/?", "http://x/", "https://x/p", "https://x:1/", "https://u@x/"} {
		readsReportTo(t, `{"max_age":5,"endpoints":[{"url":"https://x/"},{"url":"`+other+`"}]}`, group("default", 5, target("https://x/", 1, 1), target(other, 1, 1)))
	}
}

func TestTooManyTargets(t *testing.T) {
	item := func(x impl.Target) string {
		return fmt.Sprintf(`{"url":%q,"priority":%d,"weight":%d}`, x.Url, x.Priority, x.Weight)
	}
	for n := range 13 {
		var items []string
		for _, x := range targets(n) {
			items = append(items, item(x))
		}
		header := func(items []string) string {
			return `{"max_age":5,"endpoints":[` + strings.Join(items, ",") + "]}"
		}
		switch {
		case n == 0:
			refusesReportTo(t, header(items), impl.ErrNone)
		case n > 4:
			refusesReportTo(t, header(items), impl.ErrMany)
		default:
			readsReportTo(t, header(items), group("default", 5, targets(n)...))
			// Items that are no further targets do not count.
			for len(items) < 12 {
				items = append(items, []string{"null", items[0], `{"url":"https://z/","weight":0}`}[len(items)%3])
			}
			readsReportTo(t, header(items), group("default", 5, targets(n)...))
		}
	}
}

func TestReportToText(t *testing.T) {
	for _, v := range []struct {
		g      impl.Group
		header string
	}{
		{group("csp", 20, target("https://a/", 1, 3)), `{"group":"csp","max_age":20,"endpoints":[{"url":"https://a/","priority":1,"weight":3}]}`},
		{group("default", 100, target("https://b/", 9, 1), target("http://u@a:1/?", 2, 9)), `{"group":"default","max_age":100,"endpoints":[{"url":"https://b/","priority":9,"weight":1},{"url":"http://u@a:1/?","priority":2,"weight":9}]}`},
		{group("_", 1, target(`https://a/"\,`, 1, 1)), `{"group":"_","max_age":1,"endpoints":[{"url":"https://a/\"\\,","priority":1,"weight":1}]}`},
	} {
		if s, code := impl.ReportToText(v.g); s != v.header || code != impl.OK {
			t.Errorf("ReportToText = %q, %d, not %q", s, code, v.header)
		}
		isGroup(t, v.g)
	}
	// The longest text that a group can have.
	longest := group("abcdefghijkl", 100)
	for i := range 4 {
		longest.Targets = append(longest.Targets, target("https://x/"+strings.Repeat(`"`, 89)+fmt.Sprint(i), 9, 9))
	}
	isGroup(t, longest)
}
