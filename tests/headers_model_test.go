package tests

import (
	"fmt"
	"math/rand"
	"regexp"
	"slices"
	"strings"
	"testing"

	"loop.example/g00779/impl"
)

// The model reads chapter 4 a second time. Where the program changes a list of
// groups part by part, the model looks back from the end: what a name means
// depends only on the parts behind the last one that removes it.
var (
	modelPart = regexp.MustCompile(`^[ \t]*([A-Za-z_][A-Za-z0-9_]{0,11})="([^"\\]*)"[ \t]*$`)
	modelName = regexp.MustCompile(`^[A-Za-z_]\w{0,11}$`)
)

// modelClean returns no text, which is no URL, if there is no clean URL.
func modelClean(t string) string {
	u, ok := modelParse(t)
	if !ok || modelDefault(u.Scheme) == 0 {
		return ""
	}
	u.Fragment, u.HasFragment = "", false
	return modelText(u)
}

// named are the parts of one name behind the last one that removes it.
type named struct {
	name, url string
	first     int
}

func modelEndpoints(t string) ([]impl.Group, int) {
	if len(t) > 65536 {
		return nil, impl.ErrLong
	}
	if strings.Trim(t, " \t") == "" {
		return nil, impl.OK
	}
	names := map[string]*named{}
	removed := map[string]bool{}
	parts := strings.Split(t, ",")
	for i := len(parts) - 1; i >= 0; i-- {
		found := modelPart.FindStringSubmatch(parts[i])
		if found == nil {
			return nil, impl.ErrForm
		}
		name, url := found[1], modelClean(found[2])
		switch {
		case removed[name]:
		case url == "":
			removed[name] = true
		case names[name] == nil:
			names[name] = &named{name, url, i}
		default:
			names[name].first = i
		}
	}
	if len(names) > 4 {
		return nil, impl.ErrMany
	}
	var inOrder []*named
	for _, n := range names {
		inOrder = append(inOrder, n)
	}
	slices.SortFunc(inOrder, func(a, b *named) int { return a.first - b.first })
	var groups []impl.Group
	for _, n := range inOrder {
		groups = append(groups, endpoint(n.name, n.url))
	}
	return groups, impl.OK
}

// modelMembers returns the members of an object.
func modelMembers(j impl.Json) map[string]impl.Json {
	members := map[string]impl.Json{}
	for i, name := range j.Names {
		members[name] = j.Items[i]
	}
	return members
}

// modelRank returns 0 for what is no rank.
func modelRank(members map[string]impl.Json, name string) int {
	m, ok := members[name]
	switch {
	case !ok:
		return 1
	case m.Kind == impl.JsNumber && m.Num > 0 && m.Num < 10:
		return m.Num
	}
	return 0
}

func modelReportTo(t string) (impl.Group, int) {
	j, code := modelRead(t)
	if code != impl.OK {
		return impl.Group{}, code
	}
	if j.Kind != impl.JsObject {
		return impl.Group{}, impl.ErrKind
	}
	members := modelMembers(j)
	name, age, endpoints := members["group"], members["max_age"], members["endpoints"]
	if name.Kind == 0 {
		name = text("default")
	}
	g := group(name.Text, age.Num)
	seen := map[string]bool{"": true}
	for _, item := range endpoints.Items {
		m := modelMembers(item)
		url := modelClean(m["url"].Text)
		priority, weight := modelRank(m, "priority"), modelRank(m, "weight")
		if !seen[url] && priority*weight != 0 {
			seen[url] = true
			g.Targets = append(g.Targets, target(url, priority, weight))
		}
	}
	for _, check := range []struct {
		ok   bool
		code int
	}{
		{name.Kind == impl.JsText && modelPart.MatchString(name.Text+`=""`) && strings.Trim(name.Text, " \t") == name.Text, impl.ErrName},
		{age.Num >= 1 && age.Num <= 100 && age.Kind == impl.JsNumber, impl.ErrRange},
		{endpoints.Kind == impl.JsList, impl.ErrKind},
		{len(g.Targets) > 0, impl.ErrNone},
		{len(g.Targets) <= 4, impl.ErrMany},
	} {
		if !check.ok {
			return impl.Group{}, check.code
		}
	}
	return g, impl.OK
}

func modelGroupOK(g impl.Group) bool {
	urls := map[string]bool{}
	for _, x := range g.Targets {
		if x.Url == "" || modelClean(x.Url) != x.Url || x.Priority < 1 || x.Priority > 9 || x.Weight < 1 || x.Weight > 9 {
			return false
		}
		urls[x.Url] = true
	}
	return len(urls) == len(g.Targets) && len(urls) > 0 && len(urls) < 5 && g.Age > 0 && g.Age < 101 && modelName.MatchString(g.Name)
}

// checkEndpoints compares ReadEndpoints with the model, and checks promise 4
// for what it reads; it returns the code.
func checkEndpoints(t *testing.T, s string) int {
	t.Helper()
	want, code := modelEndpoints(s)
	groups, c := impl.ReadEndpoints(s)
	if c != code || !slices.EqualFunc(groups, want, sameGroup) {
		t.Fatalf("ReadEndpoints(%q) = %+v, %d, not %+v, %d", s, groups, c, want, code)
	}
	if code != impl.OK {
		return code
	}
	for _, g := range groups {
		if !impl.GroupOK(g) || strings.ContainsAny(g.Targets[0].Url, `"\,`) {
			t.Fatalf("ReadEndpoints(%q) returns the group %+v", s, g)
		}
	}
	header, c := impl.EndpointsText(groups)
	if c != impl.OK || header != modelHeader(groups) {
		t.Fatalf("EndpointsText(%+v) = %q, %d", groups, header, c)
	}
	readsEndpoints(t, header, groups...)
	return code
}

func modelHeader(groups []impl.Group) string {
	var b strings.Builder
	for _, g := range groups {
		fmt.Fprintf(&b, `, %s="%s"`, g.Name, g.Targets[0].Url)
	}
	return strings.TrimPrefix(b.String(), ", ")
}

// checkReportTo does the same with ReadReportTo.
func checkReportTo(t *testing.T, s string) int {
	t.Helper()
	want, code := modelReportTo(s)
	g, c := impl.ReadReportTo(s)
	if c != code || !sameGroup(g, want) {
		t.Fatalf("ReadReportTo(%q) = %+v, %d, not %+v, %d", s, g, c, want, code)
	}
	if code == impl.OK {
		isGroup(t, g)
	}
	return code
}

// randomUrlText returns a text that often has a clean URL.
func randomUrlText(r *rand.Rand) string {
	urls := []string{"https://x/", "https://x", "https://y/p", "HTTP://Z#f", "http://z/", "https://u@v:443?q", "https://w/#", "", "x", "data:x", "https://x/ ", "https://:1/"}
	switch r.Intn(8) {
	case 0, 1, 2:
		return fmt.Sprintf("https://x%d/", r.Intn(20))
	case 3:
		return randomText(r)
	}
	return urls[r.Intn(len(urls))]
}

// randomEndpoints returns a header that is often well-formed.
func randomEndpoints(r *rand.Rand) string {
	names := []string{"a", "b", "c", "d", "e", "f", "_", "A", "a9", "default", "abcdefghijkl"}
	spaces := []string{"", "", " ", "\t", " \t "}
	most := 1 + r.Intn(len(names))
	var parts []string
	for n := r.Intn(12); n > 0; n-- {
		quoted := randomUrlText(r)
		if r.Intn(50) > 0 {
			quoted = strings.Map(func(c rune) rune {
				if strings.ContainsRune(`",\`, c) {
					return -1
				}
				return c
			}, quoted)
		}
		parts = append(parts, spaces[r.Intn(5)]+names[r.Intn(most)]+`="`+quoted+`"`+spaces[r.Intn(5)])
	}
	b := []byte(strings.Join(parts, ","))
	if len(b) > 0 && r.Intn(3) == 0 {
		b[r.Intn(len(b))] = byte(r.Intn(256))
	}
	return string(b)
}

func TestModelOfEndpoints(t *testing.T) {
	r := rand.New(rand.NewSource(21))
	found := map[int]int{}
	for i := 0; i < 40000 && !t.Failed(); i++ {
		found[checkEndpoints(t, randomEndpoints(r))]++
	}
	for _, code := range []int{impl.OK, impl.ErrForm, impl.ErrMany} {
		if found[code] < 1000 {
			t.Errorf("only %d headers have the code %d", found[code], code)
		}
	}
}

// randomReportTo returns a header as a value.
func randomReportTo(r *rand.Rand) impl.Json {
	any := func(r *rand.Rand) impl.Json { return randomJson(r, 2) }
	j := object()
	add := func(j *impl.Json, name string, usually impl.Json) {
		if k := r.Intn(24); k == 0 || slices.Contains(j.Names, name) {
			return
		} else if k == 1 {
			usually = any(r)
		}
		i := r.Intn(len(j.Names) + 1)
		j.Names, j.Items = slices.Insert(j.Names, i, name), slices.Insert(j.Items, i, usually)
	}
	if r.Intn(3) > 0 {
		add(&j, "group", text([]string{"a", "csp", "default", "_9", "", "a b", "9"}[r.Intn(20)%7]))
	}
	add(&j, "max_age", number([]int{1, 5, 100, 50, 99, 20, 0, 101, -1}[r.Intn(30)%9]))
	endpoints := list()
	for n := r.Intn(12); n > 0; n-- {
		item := object()
		add(&item, "url", text(randomUrlText(r)))
		for _, name := range []string{"priority", "weight"} {
			if r.Intn(2) == 0 {
				add(&item, name, number([]int{0, 10, 1 + r.Intn(9), 1 + r.Intn(9), 1 + r.Intn(9), 1 + r.Intn(9), 1 + r.Intn(9)}[r.Intn(7)]))
			}
		}
		if r.Intn(12) == 0 {
			item = any(r)
		}
		endpoints.Items = append(endpoints.Items, item)
	}
	add(&j, "endpoints", endpoints)
	add(&j, randomString(r), any(r))
	if r.Intn(40) == 0 {
		return any(r)
	}
	return j
}

func TestModelOfReportTo(t *testing.T) {
	r := rand.New(rand.NewSource(22))
	found := map[int]int{}
	for i := 0; i < 12000 && !t.Failed(); i++ {
		s := spelled(r, jsonParts(randomReportTo(r)))
		if r.Intn(10) == 0 {
			b := []byte(s)
			b[r.Intn(len(b))] = byte(r.Intn(256))
			s = string(b)
		}
		found[checkReportTo(t, s)]++
	}
	for _, code := range []int{impl.OK, impl.ErrKind, impl.ErrName, impl.ErrRange, impl.ErrNone, impl.ErrMany, impl.ErrForm} {
		if found[code] < 200 {
			t.Errorf("only %d headers have the code %d", found[code], code)
		}
	}
}

// TestEveryByteInHeaders puts every byte into every place of a header, also
// instead of the byte that is there, and removes the byte.
func TestEveryByteInHeaders(t *testing.T) {
	for _, s := range []string{
		`a="https://x/p#f" , b1="HTTP://u@Y:81/?q",	a="https://z"`,
		`a="https://x/",b="http://y/",b="data:z"`,
		`a="http://v",b="http://w",c="http://x",d="http://y",d="http://z"`,
		`abcdefghijkl="https://x/"`,
	} {
		everyByte(s, func(s string) { checkEndpoints(t, s) })
	}
	for _, s := range []string{
		`{"group":"csp","max_age":20,"endpoints":[{"url":"https://x/#f","priority":1}]}`,
		`{"max_age":100,"endpoints":[{"url":"http://x","weight":9},0]}`,
	} {
		everyByte(s, func(s string) { checkReportTo(t, s) })
	}
}

// TestAnyBytesInHeaders: headers may contain any bytes.
func TestAnyBytesInHeaders(t *testing.T) {
	r := rand.New(rand.NewSource(23))
	pieces := []string{",", "=", `"`, `\`, " ", "\t", "a", "b", `a="`, `="https://x/"`, "https://x", "data:", "{", "}", "[", "]", ":", `"url"`, `"max_age":5`, `"endpoints":[`, "1"}
	for i := 0; i < 40000 && !t.Failed(); i++ {
		var b strings.Builder
		for n := r.Intn(12); n > 0; n-- {
			if r.Intn(3) == 0 {
				b.WriteByte(byte(r.Intn(256)))
			} else {
				b.WriteString(pieces[r.Intn(len(pieces))])
			}
		}
		checkEndpoints(t, b.String())
		checkReportTo(t, b.String())
		checkEndpoints(t, `a="`+strings.ReplaceAll(b.String(), ",", "")+`"`)
	}
}

// randomGroup returns a group that is often valid, and otherwise almost.
func randomGroup(r *rand.Rand) impl.Group {
	g := group([]string{"a", "b", "_Z9", "abcdefghijkl", "", "9", "abcdefghijklm", "a-b"}[r.Intn(20)%8%(4+r.Intn(5))], []int{1, 20, 99, 100, 100, 0, 101, -1}[r.Intn(40)%8])
	if r.Intn(4) > 0 {
		g.Name, g.Age = "csp", 100
	}
	for n := r.Intn(6); n > 0; n-- {
		url := randomUrlText(r)
		if clean := modelClean(url); clean != "" && r.Intn(10) > 0 {
			url = clean
		} else if r.Intn(3) > 0 {
			url = fmt.Sprintf(`https://x%d/"\,?`, r.Intn(20))
		}
		g.Targets = append(g.Targets, target(url, 1+r.Intn(9), 1+r.Intn(9)))
	}
	if len(g.Targets) > 0 && r.Intn(5) == 0 {
		x := &g.Targets[r.Intn(len(g.Targets))]
		*[]*int{&x.Priority, &x.Weight}[r.Intn(2)] = []int{0, 10, -1}[r.Intn(3)]
	}
	if len(g.Targets) > 1 && r.Intn(5) > 0 {
		g.Targets = slices.CompactFunc(g.Targets, func(a, b impl.Target) bool { return a.Url == b.Url })
	}
	return g
}

// TestModelOfGroups: valid groups are recovered from their texts.
func TestModelOfGroups(t *testing.T) {
	r := rand.New(rand.NewSource(24))
	found := map[bool]int{}
	for i := 0; i < 30000 && !t.Failed(); i++ {
		g := randomGroup(r)
		ok := modelGroupOK(g)
		found[ok]++
		if ok {
			isGroup(t, g)
		} else {
			noGroup(t, g)
		}
	}
	if found[true] < 5000 || found[false] < 5000 {
		t.Errorf("%d groups are valid, and %d are not", found[true], found[false])
	}
}

// TestModelOfEndpointLists: lists of groups with different names are recovered
// from their texts.
func TestModelOfEndpointLists(t *testing.T) {
	r := rand.New(rand.NewSource(25))
	found := map[int]int{}
	for range 30000 {
		var groups []impl.Group
		code := impl.OK
		for i := range r.Intn(6) {
			g := randomGroup(r)
			if r.Intn(8) > 0 {
				g = endpoint("a", modelClean(randomUrlText(r)))
			}
			if g.Name != "" {
				g.Name = fmt.Sprint("n", i)
			}
			groups = append(groups, g)
			if !modelGroupOK(g) || g.Age != 100 || len(g.Targets) != 1 || g.Targets[0].Priority*g.Targets[0].Weight != 1 || strings.ContainsAny(g.Targets[0].Url, `"\,`) {
				code = impl.ErrBad
			}
		}
		want := modelHeader(nil)
		if len(groups) > 4 {
			code = impl.ErrMany
		} else if code == impl.OK {
			want = modelHeader(groups)
		}
		found[code]++
		s, c := impl.EndpointsText(groups)
		if s != want || c != code {
			t.Fatalf("EndpointsText(%+v) = %q, %d, not %q, %d", groups, s, c, want, code)
		}
		if code == impl.OK {
			readsEndpoints(t, s, groups...)
		}
	}
	for _, code := range []int{impl.OK, impl.ErrBad, impl.ErrMany} {
		if found[code] < 1000 {
			t.Errorf("only %d lists have the code %d", found[code], code)
		}
	}
}
