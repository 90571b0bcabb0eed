package tests

import (
	"fmt"
	"math"
	"math/rand"
	"slices"
	"strings"
	"sync"
	"testing"
	"unsafe"

	"loop.example/g00779/impl"
)

// hardTexts are arguments that are ordinary, invalid, too long, or no text at
// all.
func hardTexts() []string {
	r := rand.New(rand.NewSource(4))
	texts := []string{"", ":", "://", "http://", "http://x:80/", "https://u@x:443/p?q#f", "data:a?b#c", "ok", "same", "a_9", "\xff\xfe", "\u212a", "\x00"}
	for _, n := range []int{12, 13, 100, 101, impl.MaxText, impl.MaxText + 1, 1 << 20} {
		texts = append(texts, strings.Repeat("a", n), strings.Repeat(":", n), strings.Repeat("\x80", n), padded("http://x/", n+9))
	}
	for i := 0; i < 300; i++ {
		texts = append(texts, randomText(r), randomJsonText(r), randomString(r))
	}
	for _, c := range []string{"[", "{", "1", "-", "\"", "\\", "\n", `{"a":`, "[[],"} {
		for _, n := range []int{1, 4, 5, 13, 121, impl.MaxText/len(c) + 1, impl.MaxText / len(c)} {
			texts = append(texts, strings.Repeat(c, n), `["`+strings.Repeat(c, n)+`"]`)
		}
	}
	for i := 0; i < 300; i++ {
		texts = append(texts, randomEndpoints(r), strings.Join(jsonParts(randomReportTo(r)), ""), randomPolicyText(r))
	}
	for i := 0; i < 300; i++ {
		b := make([]byte, r.Intn(40))
		r.Read(b)
		texts = append(texts, string(b), "http://"+string(b))
	}
	return texts
}

// someChanged returns n random values, of which two in three are changed, once
// or twice.
func someChanged[T any](r *rand.Rand, n int, random func(*rand.Rand) T, change func(*rand.Rand, T) T) []T {
	var list []T
	for i := range n {
		x := random(r)
		for range i % 3 {
			x = change(r, x)
		}
		list = append(list, x)
	}
	return list
}

func hardUrls() []impl.Url {
	r := rand.New(rand.NewSource(5))
	long := strings.Repeat("a", 1<<20)
	urls := []impl.Url{
		{},
		{Scheme: long, User: long, Host: long, Port: math.MaxInt, Path: "/" + long, Query: long, Fragment: long, HasQuery: true, HasFragment: true},
		{Scheme: "http", Host: "x", Port: math.MinInt, Path: "/"},
		{Scheme: "http", Host: "x", Port: math.MaxInt, Path: "/"},
		{Scheme: "https", Host: "x", Path: "/", Query: long},
		{Scheme: "https", Host: "x", Path: "/", Query: long, HasQuery: true},
	}
	for i := 0; i < 300; i++ {
		urls = append(urls, randomUrl(r))
	}
	return urls
}

// hardJsons are values that are valid, invalid, or enormous; behind their
// slices there is more in the same memory.
func hardJsons() []impl.Json {
	r := rand.New(rand.NewSource(6))
	long := strings.Repeat("a", 1<<20)
	values := []impl.Json{
		{}, null, number(math.MinInt), number(math.MaxInt), boolean(math.MinInt), {Kind: math.MinInt}, {Kind: math.MaxInt},
		text(long), object(long, null), list(text(long)),
		{Kind: impl.JsObject, Names: make([]string, 1<<16)}, {Kind: impl.JsObject, Items: make([]impl.Json, 1<<16)},
		{Kind: impl.JsList, Items: nulls(1 << 16)}, {Kind: impl.JsNull, Names: make([]string, 1<<16), Items: nulls(1 << 16)},
		inside(1<<10, null, false), inside(1<<10, null, true), numbered(12), numbered(13),
	}
	for n := range 4 {
		values = append(values, wide(n))
	}
	for i := range 600 {
		j := randomJson(r, 1+r.Intn(5))
		for range i % 3 {
			j = brokenJson(r, j)
		}
		values = append(values, withSpare(j))
	}
	return values
}

// hardGroups are groups that are valid, invalid, or enormous; behind their
// targets there are more in the same memory.
func hardGroups() []impl.Group {
	r := rand.New(rand.NewSource(7))
	long := strings.Repeat("a", 1<<20)
	groups := []impl.Group{
		{}, endpoint("a", "https://x/"), endpoint("a", "https://x/,"), endpoint(long, "https://x/"), endpoint("a", long), endpoint("a", "https://x/"+long), endpoint("a", "https://x/#"+long),
		group("a", math.MinInt, targets(4)...), group("a", math.MaxInt, targets(4)...), group("a", 5, targets(1<<16)...), group("a", 5, make([]impl.Target, 1<<16)...),
		group("a", 5, target("https://x/", math.MinInt, math.MaxInt)), group("a", 5, target("https://x/", math.MaxInt, math.MinInt)),
	}
	for range 600 {
		groups = append(groups, randomGroup(r))
	}
	for i, g := range groups {
		spare := append(slices.Clone(g.Targets), target("https://spare/", 1, 1), target("spare", 0, 0))
		groups[i].Targets = spare[:len(g.Targets)]
	}
	return groups
}

// hardGroupLists are lists of these groups, with more behind them in the same
// memory.
func hardGroupLists() [][]impl.Group {
	groups := hardGroups()
	lists := [][]impl.Group{nil, {}, groups[:4], groups[:5], make([]impl.Group, impl.MaxList), make([]impl.Group, impl.MaxList+1), make([]impl.Group, 1<<16)}
	for i := range groups {
		lists = append(lists, groups[i:i+1], groups[max(0, i-i%5):i])
	}
	r := rand.New(rand.NewSource(8))
	for range 300 {
		list, _ := impl.ReadEndpoints(randomEndpoints(r))
		lists = append(lists, append(list, endpoint("spare", "https://spare/"), endpoint("spare", "spare"))[:len(list)])
	}
	return lists
}

// wholeGroups returns a copy of a list in which unused capacity is used.
func wholeGroups(list []impl.Group) []impl.Group {
	list = slices.Clone(list[:cap(list)])
	for i, g := range list {
		list[i].Targets = slices.Clone(g.Targets[:cap(g.Targets)])
	}
	return list
}

// hardPolicies are policies that are valid, invalid, or enormous; behind their
// slices there is more in the same memory.
func hardPolicies() []impl.Policy {
	r := rand.New(rand.NewSource(9))
	long := strings.Repeat("a", 1<<20)
	policies := []impl.Policy{
		{}, {ReportTo: long}, {Uris: make([]string, 1<<16)}, {Uris: []string{long}}, plain(make([]impl.Rule, 1<<16)...), plain(slices.Repeat([]impl.Rule{rule("a")}, 1<<16)...),
		plain(rule(long)), plain(rule("a", long)), plain(rule("a", make([]string, 1<<16)...)), plain(rule("a", slices.Repeat([]string{"w"}, 1<<16)...)), plain(rule("report-to", long)), plain(rule("report-uri", long, "https://x/"+long)),
	}
	for i := range 600 {
		policies = append(policies, randomPolicy(r, i%3))
	}
	for i, p := range policies {
		policies[i] = spacious(p)
	}
	return policies
}

// hardViolations are violations that are valid, invalid, or enormous.
func hardViolations() []impl.Violation {
	r := rand.New(rand.NewSource(10))
	long := strings.Repeat("a", 1<<20)
	violations := []impl.Violation{
		{}, ordinary(),
		{Document: long, Referrer: long, Blocked: long, Source: long, Directive: long, Sample: long, Line: math.MaxInt, Column: math.MaxInt, Redirected: true},
		{Directive: "a", Line: math.MinInt}, {Directive: "a", Column: math.MinInt}, {Directive: "a", Sample: long}, {Directive: long},
	}
	for _, field := range urlFields {
		violations = append(violations, like(func(v *impl.Violation) { *field(v) = long }), like(func(v *impl.Violation) { *field(v) = "https://x/" + long }))
	}
	violations = append(violations, someChanged(r, 600, randomViolation, changedViolation)...)
	return violations
}

// hardReports are reports that are valid, invalid, or enormous.
func hardReports() []impl.Report {
	r := rand.New(rand.NewSource(11))
	long := strings.Repeat("a", 1<<20)
	reports := []impl.Report{
		{}, report(1, 0, 0, "a"), report(math.MinInt, math.MinInt, math.MinInt, ""), report(math.MaxInt, math.MaxInt, math.MaxInt, long), report(1, 0, 0, long),
		report(impl.MaxNow, impl.MaxNow, 3, long[:8000]), report(100, impl.MaxNow, 0, "new"), report(100, 1000, 0, "new"),
	}
	for range 20 {
		reports = append(reports, randomReport(r, randomQueue(r)))
	}
	return reports
}

// hardQueues are queues that are valid, invalid, or enormous; behind their
// lists there is more in the same memory.
func hardQueues() []impl.Queue {
	r := rand.New(rand.NewSource(12))
	long := strings.Repeat("a", 1<<20)
	queues := []impl.Queue{
		{}, sized(1<<10, 6), queue(nil, make([]impl.Report, 1<<16)...), queue(make([]string, 1<<16)), queue([]string{long}), queue(nil, report(1, 0, 0, long)),
		queue(nil, report(math.MinInt, 0, 0, "a")), queue(nil, report(1, math.MaxInt, 0, "a")), queue(nil, report(1, 0, math.MaxInt, "a"), report(2, math.MinInt, math.MinInt, "a")),
		queue([]string{long[:8000], long[:7999]}, report(1, 0, 0, long[:8000]), report(2, 0, 3, long[1:8001])),
	}
	for i := range impl.MaxQueue + 1 {
		for j := range impl.MaxWindow + 1 {
			queues = append(queues, sized(i, j))
		}
	}
	queues = append(queues, someChanged(r, 200, randomQueue, changedQueue)...)
	for i, q := range queues {
		spareItems := append(slices.Clone(q.Items), report(2000, 2000, 0, "spare"), impl.Report{})
		spareRecent := append(slices.Clone(q.Recent), "spare", "")
		queues[i] = queue(spareRecent[:len(q.Recent)], spareItems[:len(q.Items)]...)
	}
	return queues
}

// wholeQueue returns a copy of q in which unused capacity is used.
func wholeQueue(q impl.Queue) impl.Queue {
	return queue(slices.Clone(q.Recent[:cap(q.Recent)]), slices.Clone(q.Items[:cap(q.Items)])...)
}

// queuePlaces collects the places of everything in the lists of q, their unused
// capacity and the bytes of their bodies too.
func queuePlaces(q impl.Queue) []any {
	list := reportPlaces(q.Items)
	recent := q.Recent[:cap(q.Recent)]
	for i := range recent {
		list = append(list, &recent[i])
		list = append(list, textPlaces(recent[i])...)
	}
	return list
}

func reportPlaces(reports []impl.Report) []any {
	var list []any
	reports = reports[:cap(reports)]
	for i := range reports {
		list = append(list, &reports[i])
		list = append(list, textPlaces(reports[i].Body)...)
	}
	return list
}

func textPlaces(t string) []any {
	if t == "" {
		return nil
	}
	return []any{unsafe.StringData(t)}
}

func idPlaces(ids []int) []any {
	var list []any
	ids = ids[:cap(ids)]
	for i := range ids {
		list = append(list, &ids[i])
	}
	return list
}

// queueCall is a call whose result is a queue or a part of one.
type queueCall func(impl.Queue) (text string, places []any)

func queueCalls() []queueCall { return queueCallsOf(hardReports()) }

// queueCallsOf returns calls of all functions with results that have memory;
// the reports are offered.
func queueCallsOf(offered []impl.Report) []queueCall {
	list := []queueCall{func(q impl.Queue) (string, []any) {
		reports, code := impl.Batch(q)
		return fmt.Sprint(reports, code), reportPlaces(reports)
	}}
	for _, r := range offered {
		list = append(list, func(q impl.Queue) (string, []any) {
			x, taken, id, code := impl.Offer(q, r)
			return fmt.Sprint(x, taken, id, code), queuePlaces(x)
		})
	}
	removals := []removal{expire(math.MinInt, 1), expire(0, math.MaxInt), expire(0, 1), expire(150, 100), expire(301, 100), expire(impl.MaxNow, 1)}
	for _, n := range []int{math.MinInt, -1, 0, 1, 2, 3, 4, math.MaxInt} {
		removals = append(removals, settle(n), missed(n))
	}
	for _, call := range removals {
		list = append(list, func(q impl.Queue) (string, []any) {
			x, ids, code := call(q)
			return fmt.Sprint(x, ids, code), append(queuePlaces(x), idPlaces(ids)...)
		})
	}
	return list
}

// hardPeers are lists of peers that are valid, invalid, or enormous; behind
// them there is more in the same memory.
func hardPeers() [][]impl.Peer {
	r := rand.New(rand.NewSource(13))
	long := strings.Repeat("a", 1<<20)
	x := target("https://x/", 1, 1)
	lists := [][]impl.Peer{
		nil, {}, peers(5), peers(impl.MaxList), peers(impl.MaxList + 1), make([]impl.Peer, 1<<16), {ranked(long, 1, 1)}, {peer(target("https://x/"+long, 1, 1), 0, 0)},
		{peer(x, math.MinInt, math.MinInt)}, {peer(x, math.MaxInt, math.MaxInt)}, {peer(x, 1, math.MinInt)}, {peer(x, 1, math.MaxInt)}, {peer(x, math.MinInt, 0)}, {peer(x, math.MaxInt, 0)},
		{peer(target("https://x/", math.MinInt, math.MaxInt), 0, 0)}, {peer(target("https://x/", math.MaxInt, math.MinInt), 0, 0)}, {peer(x, impl.MaxNow, impl.MaxNow+impl.BackMost)}, {gone(peer(x, 1, 0))},
	}
	for n := range impl.MaxTargets + 1 {
		lists = append(lists, peers(n))
	}
	lists = append(lists, someChanged(r, 200, randomPeers, changedPeers)...)
	for i, list := range lists {
		lists[i] = append(slices.Clone(list), ranked("spare", 1, 1), impl.Peer{})[:len(list)]
	}
	return lists
}

// peersPlaces collects the places of everything in a list, its unused capacity
// and the bytes of its Urls too.
func peersPlaces(list []impl.Peer) []any {
	var found []any
	list = list[:cap(list)]
	for i := range list {
		found = append(found, &list[i])
		found = append(found, textPlaces(list[i].Target.Url)...)
	}
	return found
}

func targetPlaces(list []impl.Target) []any {
	var found []any
	list = list[:cap(list)]
	for i := range list {
		found = append(found, &list[i])
		found = append(found, textPlaces(list[i].Url)...)
	}
	return found
}

// peersCalls returns calls of all functions that return a list of peers, but
// for PeersOf; the groups name endpoints.
func peersCalls(groups []impl.Group) []peersCall {
	var list []peersCall
	for _, k := range []int{math.MinInt, -1, 0, 1, 3, 4, math.MaxInt} {
		list = append(list, works(k), goes(k))
		for _, now := range []int{math.MinInt, -1, 0, impl.MaxNow, math.MaxInt} {
			list = append(list, fails(k, now))
		}
	}
	for _, g := range groups {
		list = append(list, keeps(g))
	}
	return list
}

// peerCalls returns calls of all functions that tell a number about peers.
func peerCalls() []peerCall {
	var list []peerCall
	for _, now := range []int{math.MinInt, -1, 0, 1, 25, impl.MaxNow, impl.MaxNow + 1, math.MaxInt} {
		list = append(list, wake(now))
		for _, draw := range []int{math.MinInt, -1, 0, 5, 9, impl.MaxNow, math.MaxInt} {
			list = append(list, choose(now, draw))
		}
	}
	return list
}

// someGroups are groups of which some name endpoints of hardPeers.
func someGroups() []impl.Group {
	r := rand.New(rand.NewSource(14))
	lists := hardPeers()
	groups := []impl.Group{{}, newcomer(), group("a", 5, targets(4)...), group("a", 5, targets(5)...), group("a", math.MinInt, targets(1)...)}
	for range 20 {
		groups = append(groups, randomPeerGroup(r, lists[r.Intn(len(lists))]))
	}
	for i, g := range groups {
		groups[i].Targets = append(slices.Clone(g.Targets), target("https://spare/", 1, 1), impl.Target{})[:len(g.Targets)]
	}
	return groups
}

// spacious returns p with slices that have unused capacity.
func spacious(p impl.Policy) impl.Policy {
	uris := append(slices.Clone(p.Uris), "https://spare/", "spare")
	list := append(slices.Clone(p.Rules), rule("spare", "spare"), rule("report-to", "spare"))
	for i, r := range list {
		list[i].Words = append(slices.Clone(r.Words), "spare", "https://spare/")[:len(r.Words)]
	}
	return impl.Policy{ReportTo: p.ReportTo, Uris: uris[:len(p.Uris)], Rules: list[:len(p.Rules)]}
}

// wholePolicy returns a copy of p in which unused capacity is used.
func wholePolicy(p impl.Policy) impl.Policy {
	p.Uris, p.Rules = slices.Clone(p.Uris[:cap(p.Uris)]), slices.Clone(p.Rules[:cap(p.Rules)])
	for i, r := range p.Rules {
		p.Rules[i].Words = slices.Clone(r.Words[:cap(r.Words)])
	}
	return p
}

// policyPlaces collects the places of everything in the slices of p, their
// unused capacity too.
func policyPlaces(p impl.Policy) []any {
	var list []any
	p.Uris, p.Rules = p.Uris[:cap(p.Uris)], p.Rules[:cap(p.Rules)]
	for i := range p.Uris {
		list = append(list, &p.Uris[i])
	}
	for i := range p.Rules {
		list = append(list, &p.Rules[i])
		found := p.Rules[i].Words
		found = found[:cap(found)]
		for j := range found {
			list = append(list, &found[j])
		}
	}
	return list
}

// wide returns lists that are full down to n levels.
func wide(n int) impl.Json {
	j := null
	for range n {
		j = list(slices.Repeat([]impl.Json{j}, 12)...)
	}
	return j
}

// endlessJsons are values that contain themselves, or so many others that no
// function has the time to look at all of them.
func endlessJsons() []impl.Json {
	a, b := list(null), object("a", null, "b", null)
	a.Items[0] = a
	b.Items[0], b.Items[1] = b, a
	return []impl.Json{a, b, list(a, b), object("a", b), wide(40), list(wide(100))}
}

// withSpare returns j with slices that have unused capacity.
func withSpare(j impl.Json) impl.Json {
	names := append(append([]string{}, j.Names...), "spare", "spare")
	items := make([]impl.Json, 0, len(j.Items)+2)
	for _, item := range j.Items {
		items = append(items, withSpare(item))
	}
	items = append(items, text("spare"), number(12345))
	j.Names, j.Items = names[:len(j.Names)], items[:len(j.Items)]
	return j
}

// whole returns a copy of j in which unused capacity is used.
func whole(j impl.Json) impl.Json {
	j.Names = slices.Clone(j.Names[:cap(j.Names)])
	items := []impl.Json{}
	for _, item := range j.Items[:cap(j.Items)] {
		items = append(items, whole(item))
	}
	j.Items = items
	return j
}

// overwrite changes everything in the slices of j, their unused capacity too.
func overwrite(j impl.Json) {
	for i := range j.Names[:cap(j.Names)] {
		j.Names[:cap(j.Names)][i] = "overwritten"
	}
	for i, item := range j.Items[:cap(j.Items)] {
		overwrite(item)
		j.Items[:cap(j.Items)][i] = text("overwritten")
	}
}

// places collects the places of everything in the slices of j, their unused
// capacity too, and reports whether they are all different.
func places(j impl.Json, seen map[any]bool) bool {
	different := true
	for i := range j.Names[:cap(j.Names)] {
		place := &j.Names[:cap(j.Names)][i]
		different = different && !seen[place]
		seen[place] = true
	}
	for i, item := range j.Items[:cap(j.Items)] {
		place := &j.Items[:cap(j.Items)][i]
		different = different && !seen[place]
		seen[place] = true
		different = places(item, seen) && different
	}
	return different
}

// calls returns a call of every function that is built so far for every hard
// argument; each returns its results as a text.
func calls() []func() string {
	var list []func() string
	for _, s := range hardTexts() {
		list = append(list,
			func() string { return fmt.Sprint(impl.NameOK(s)) },
			func() string { return fmt.Sprint(impl.CodeOf(s)) },
			func() string { u, code := impl.ParseUrl(s); return fmt.Sprintf("%+v %d", u, code) },
			func() string { return impl.StripText(s) },
			func() string { j, code := impl.ReadJson(s); return fmt.Sprint(j, code) },
			func() string { return impl.QuoteText(s) },
			func() string { groups, code := impl.ReadEndpoints(s); return fmt.Sprint(groups, code) },
			func() string { g, code := impl.ReadReportTo(s); return fmt.Sprint(g, code) },
			func() string { p, code := impl.ReadPolicy(s); return fmt.Sprint(p, code) },
		)
	}
	for _, p := range hardPolicies() {
		list = append(list,
			func() string { return fmt.Sprint(impl.PolicyOK(p)) },
			func() string { s, code := impl.PolicyText(p); return fmt.Sprint(s, code) },
			func() string { g, code := impl.UriGroup(p); return fmt.Sprint(g, code) },
			func() string { s, code := impl.GroupFor(p); return fmt.Sprint(s, code) },
		)
	}
	violations := hardViolations()
	for i, v := range violations {
		w := violations[(i*7+1)%len(violations)]
		list = append(list,
			func() string { return fmt.Sprint(impl.ViolationOK(v)) },
			func() string { s, code := impl.BlockedPart(v); return fmt.Sprint(s, code) },
			func() string { s, code := impl.SourcePart(v); return fmt.Sprint(s, code) },
			func() string { j, code := impl.BodyOf(v); return fmt.Sprint(j, code) },
			func() string { s, code := impl.BodyText(v); return fmt.Sprint(s, code) },
			func() string { return fmt.Sprint(impl.AlikeOutside(v, v), impl.AlikeOutside(v, w)) },
		)
	}
	for _, r := range hardReports() {
		list = append(list, func() string { return fmt.Sprint(impl.ReportOK(r)) })
	}
	queues := hardQueues()
	for i, q := range queues {
		other := queues[(i*7+1)%len(queues)]
		list = append(list,
			func() string { return fmt.Sprint(impl.QueueOK(q)) },
			func() string { return fmt.Sprint(impl.SameQueue(q, q), impl.SameQueue(q, other)) },
		)
		for _, call := range queueCalls() {
			list = append(list, func() string { s, _ := call(q); return s })
		}
	}
	named := someGroups()
	for _, old := range hardPeers() {
		list = append(list, func() string { return fmt.Sprint(impl.PeersOK(old)) })
		for _, call := range peersCalls(named) {
			list = append(list, func() string { x, code := call(old); return fmt.Sprint(x, code) })
		}
		for _, call := range peerCalls() {
			list = append(list, func() string { n, code := call(old); return fmt.Sprint(n, code) })
		}
	}
	groups := hardGroups()
	for i, g := range groups {
		h := groups[(i*7+1)%len(groups)]
		list = append(list,
			func() string { return fmt.Sprint(impl.GroupOK(g)) },
			func() string { x, code := impl.PeersOf(g); return fmt.Sprint(x, code) },
			func() string { return fmt.Sprint(impl.SameGroup(g, g), impl.SameGroup(g, h)) },
			func() string { s, code := impl.ReportToText(g); return fmt.Sprint(s, code) },
		)
	}
	for _, groups := range hardGroupLists() {
		list = append(list, func() string { s, code := impl.EndpointsText(groups); return fmt.Sprint(s, code) })
	}
	values := append(hardJsons(), endlessJsons()...)
	for i, j := range values {
		k := values[(i*7+1)%len(values)]
		list = append(list,
			func() string { return fmt.Sprint(impl.JsonOK(j)) },
			func() string { s, code := impl.JsonText(j); return fmt.Sprint(s, code) },
			func() string { return fmt.Sprint(impl.SameJson(j, j), impl.SameJson(j, k)) },
		)
		for _, name := range append([]string{"", "a", strings.Repeat("a", impl.MaxText+1)}, j.Names[:min(len(j.Names), 20)]...) {
			list = append(list, func() string { m, code := impl.Member(j, name); return fmt.Sprint(m, code) })
		}
	}
	urls := hardUrls()
	for i, u := range urls {
		v := urls[(i*7+1)%len(urls)]
		list = append(list,
			func() string { return fmt.Sprint(impl.UrlOK(u)) },
			func() string { s, code := impl.UrlText(u); return fmt.Sprint(s, code) },
			func() string { s, code := impl.OriginOf(u); return fmt.Sprint(s, code) },
			func() string { s, code := impl.StripUrl(u); return fmt.Sprint(s, code) },
			func() string { return fmt.Sprint(impl.SameOrigin(u, u), impl.SameOrigin(u, v)) },
		)
	}
	for _, n := range []int{math.MinInt, -1, 0, 1, 17, 18, 19, 1 << 32, math.MaxInt} {
		list = append(list,
			func() string { return impl.CodeWord(n) },
			func() string { return fmt.Sprint(impl.Wait(n)) },
		)
	}
	return slices.Concat(list, pipeCalls(), fateCalls(), wireCalls(), receiverCalls())
}

// TestResultsDependOnArgumentsOnly makes all calls in order, then backwards,
// then from several goroutines at once: the results are the same.
func TestResultsDependOnArgumentsOnly(t *testing.T) {
	list := calls()
	first := make([]string, len(list))
	for i, call := range list {
		first[i] = call()
	}
	for i := len(list) - 1; i >= 0; i-- {
		if again := list[i](); again != first[i] {
			t.Errorf("call %d: first %.200q, then %.200q", i, first[i], again)
		}
	}
	var wait sync.WaitGroup
	for k := 0; k < 4; k++ {
		wait.Go(func() {
			for i := range list {
				j := (i + k*len(list)/4) % len(list)
				if again := list[j](); again != first[j] {
					t.Errorf("call %d in a goroutine: first %.200q, then %.200q", j, first[j], again)
				}
			}
		})
	}
	wait.Wait()
}

// TestEqualArguments: arguments that are equal but stored elsewhere yield
// equal results.
func TestEqualArguments(t *testing.T) {
	list, equal := calls(), calls()
	for i := range list {
		if a, b := list[i](), equal[i](); a != b {
			t.Errorf("call %d: %.200q and %.200q", i, a, b)
		}
	}
}

// TestArgumentsUnchanged: a URL and a text are the same after every call.
func TestArgumentsUnchanged(t *testing.T) {
	for _, s := range hardTexts() {
		before := strings.Clone(s)
		impl.NameOK(s)
		impl.CodeOf(s)
		impl.ParseUrl(s)
		impl.StripText(s)
		impl.QuoteText(s)
		impl.ReadJson(s)
		impl.Member(object("a", null), s)
		impl.ReadEndpoints(s)
		impl.ReadReportTo(s)
		impl.ReadPolicy(s)
		if s != before {
			t.Errorf("the text %.100q was changed", before)
		}
	}
	for _, u := range hardUrls() {
		before := u
		for _, field := range []*string{&before.Scheme, &before.User, &before.Host, &before.Path, &before.Query, &before.Fragment} {
			*field = strings.Clone(*field)
		}
		impl.UrlOK(u)
		impl.UrlText(u)
		impl.OriginOf(u)
		impl.StripUrl(u)
		impl.SameOrigin(u, u)
		if u != before {
			t.Errorf("the URL %s was changed", brief(before))
		}
	}
}

// TestValuesUnchanged: a value is the same after every call, and so is what its
// slices do not use.
func TestValuesUnchanged(t *testing.T) {
	for _, j := range hardJsons() {
		before := whole(j)
		impl.JsonOK(j)
		impl.JsonText(j)
		impl.SameJson(j, j)
		impl.SameJson(j, null)
		for _, name := range append([]string{"", "a"}, j.Names[:min(len(j.Names), 20)]...) {
			impl.Member(j, name)
		}
		if !equal(whole(j), before) {
			t.Errorf("the value %s was changed", briefJson(before))
		}
	}
}

// TestMembersAreNew: a member shares no memory with its object, and no two of
// its slices share any.
func TestMembersAreNew(t *testing.T) {
	found := 0
	for _, j := range append(hardJsons(), object("a", wide(3))) {
		for _, name := range j.Names[:min(len(j.Names), 20)] {
			m, code := impl.Member(j, name)
			if code != impl.OK {
				continue
			}
			found++
			if !places(m, map[any]bool{}) {
				t.Fatalf("two slices of the member %s share memory", briefJson(m))
			}
			before := whole(j)
			overwrite(m)
			if !equal(whole(j), before) {
				t.Fatalf("a change of its member %q changed %s", name, briefJson(before))
			}
		}
	}
	if found < 100 {
		t.Errorf("only %d members", found)
	}
}

// TestReadValuesAreNew: no two slices of a value that is read share memory,
// and two readings of one text share none either.
func TestReadValuesAreNew(t *testing.T) {
	found := 0
	for _, s := range append(hardTexts(), mustText(wide(3)), "[[[],[]],[[],[]],{},{}]") {
		a, code := impl.ReadJson(s)
		b, _ := impl.ReadJson(s)
		if len(a.Items) == 0 || code != impl.OK {
			continue
		}
		found++
		seen := map[any]bool{}
		if !places(a, seen) || !places(b, seen) {
			t.Errorf("two slices that are read from %.200q share memory", s)
		}
	}
	if found < 30 {
		t.Errorf("only %d values", found)
	}
}

// TestGroupsUnchanged: a group and a list of groups are the same after every
// call, and so is what their slices do not use.
func TestGroupsUnchanged(t *testing.T) {
	lists := append(hardGroupLists(), hardGroups())
	for _, list := range lists {
		before := wholeGroups(list)
		impl.EndpointsText(list)
		for _, g := range list[:min(len(list), 1000)] {
			impl.GroupOK(g)
			impl.SameGroup(g, g)
			impl.SameGroup(g, list[0])
			impl.ReportToText(g)
		}
		if !slices.EqualFunc(wholeGroups(list), before, sameGroup) {
			t.Errorf("the groups %.300q were changed", fmt.Sprint(before))
		}
	}
}

// TestReadGroupsAreNew: no two groups that are read share memory, neither those
// of one reading nor those of two readings of one text.
func TestReadGroupsAreNew(t *testing.T) {
	found := 0
	for _, s := range hardTexts() {
		seen := map[*impl.Target]bool{}
		for range 2 {
			groups, _ := impl.ReadEndpoints(s)
			g, _ := impl.ReadReportTo(s)
			for _, g := range append(groups, g) {
				for i := range g.Targets[:cap(g.Targets)] {
					place := &g.Targets[:cap(g.Targets)][i]
					if seen[place] {
						t.Fatalf("two groups that are read from %.200q share memory", s)
					}
					seen[place] = true
					found++
				}
			}
		}
	}
	if found < 500 {
		t.Errorf("only %d targets", found)
	}
}

// TestPoliciesUnchanged: a policy is the same after every call, and so is what
// its slices do not use.
func TestPoliciesUnchanged(t *testing.T) {
	for _, p := range hardPolicies() {
		before := wholePolicy(p)
		impl.PolicyOK(p)
		impl.PolicyText(p)
		impl.UriGroup(p)
		impl.GroupFor(p)
		if !samePolicy(wholePolicy(p), before) {
			t.Errorf("the policy %s was changed", briefPolicy(before))
		}
	}
}

// TestReadPoliciesAreNew: no two slices of policies that are read share memory,
// neither those of one reading nor those of two readings of one text.
func TestReadPoliciesAreNew(t *testing.T) {
	found := 0
	for _, s := range hardTexts() {
		seen := map[any]bool{}
		for range 2 {
			p, _ := impl.ReadPolicy(s)
			for _, place := range policyPlaces(p) {
				if seen[place] {
					t.Fatalf("two slices that are read from %.200q share memory", s)
				}
				seen[place] = true
				found++
			}
		}
	}
	if found < 1000 {
		t.Errorf("only %d places", found)
	}
}

// TestUriGroupsAreNew: no two groups of one policy share memory.
func TestUriGroupsAreNew(t *testing.T) {
	found := 0
	for _, p := range hardPolicies() {
		seen := map[*impl.Target]bool{}
		for range 2 {
			g, _ := impl.UriGroup(p)
			for i := range g.Targets[:cap(g.Targets)] {
				place := &g.Targets[:cap(g.Targets)][i]
				if seen[place] {
					t.Fatalf("two groups of %s share memory", briefPolicy(p))
				}
				seen[place] = true
				found++
			}
		}
	}
	if found < 100 {
		t.Errorf("only %d targets", found)
	}
}

// TestViolationsUnchanged: a violation is the same after every call.
func TestViolationsUnchanged(t *testing.T) {
	for _, v := range hardViolations() {
		before := v
		for _, field := range []*string{&before.Document, &before.Referrer, &before.Blocked, &before.Source, &before.Directive, &before.Sample} {
			*field = strings.Clone(*field)
		}
		impl.ViolationOK(v)
		impl.BlockedPart(v)
		impl.SourcePart(v)
		impl.BodyOf(v)
		impl.BodyText(v)
		impl.AlikeOutside(v, v)
		impl.AlikeOutside(v, ordinary())
		if v != before {
			t.Errorf("the violation %s was changed", briefViolation(before))
		}
	}
}

// TestBodiesAreNew: no two slices of bodies share memory, neither those of one
// body nor those of two bodies of one violation.
func TestBodiesAreNew(t *testing.T) {
	found := 0
	for _, v := range hardViolations() {
		a, code := impl.BodyOf(v)
		b, _ := impl.BodyOf(v)
		if code != impl.OK {
			continue
		}
		found++
		seen := map[any]bool{}
		if !places(a, seen) || !places(b, seen) {
			t.Errorf("two slices of bodies of %s share memory", briefViolation(v))
		}
		overwrite(a)
		if c, _ := impl.BodyOf(v); !equal(b, c) {
			t.Errorf("a change of a body of %s changed others", briefViolation(v))
		}
	}
	if found < 100 {
		t.Errorf("only %d bodies", found)
	}
}

// TestQueuesUnchanged: a queue is the same after every call, and so is what its
// lists do not use.
func TestQueuesUnchanged(t *testing.T) {
	for _, q := range hardQueues() {
		before := wholeQueue(q)
		impl.QueueOK(q)
		impl.SameQueue(q, q)
		impl.SameQueue(q, sized(2, 2))
		for _, call := range queueCalls() {
			call(q)
		}
		if !equalQueues(wholeQueue(q), before) {
			t.Errorf("%s was changed", briefQueue(before))
		}
	}
}

// TestQueuesAreNew: no result shares memory with an argument, with another
// result, or in itself.
func TestQueuesAreNew(t *testing.T) {
	found := 0
	offered := hardReports()
	for _, q := range hardQueues() {
		if !impl.QueueOK(q) {
			continue
		}
		seen := map[any]bool{}
		for _, place := range append(queuePlaces(q), reportPlaces(offered)...) {
			seen[place] = true
		}
		for i, call := range queueCallsOf(offered) {
			_, first := call(q)
			_, second := call(q)
			for _, place := range append(first, second...) {
				if seen[place] {
					t.Fatalf("%s: results of call %d share memory", briefQueue(q), i)
				}
				seen[place] = true
				found++
			}
		}
	}
	if found < 10000 {
		t.Errorf("only %d places", found)
	}
}

// TestChangesOfQueues: a change of a result is not seen in the argument, nor
// one of the argument in the result.
func TestChangesOfQueues(t *testing.T) {
	for i := range impl.MaxQueue + 1 {
		for j := range impl.MaxWindow + 1 {
			for _, call := range []func(impl.Queue) impl.Queue{
				func(q impl.Queue) impl.Queue { x, _, _, _ := impl.Offer(q, report(70, 700, 0, "new")); return x },
				func(q impl.Queue) impl.Queue { x, _, _, _ := impl.Offer(q, report(70, 700, 0, "a")); return x },
				func(q impl.Queue) impl.Queue { x, _, _, _ := impl.Offer(q, report(10, 0, 0, "new")); return x },
				func(q impl.Queue) impl.Queue { x, _, _ := impl.Expire(q, 250, 100); return x },
				func(q impl.Queue) impl.Queue { x, _, _ := impl.Settle(q, 0); return x },
				func(q impl.Queue) impl.Queue { x, _, _ := impl.Settle(q, min(i, 2)); return x },
				func(q impl.Queue) impl.Queue { x, _, _ := impl.Missed(q, 0); return x },
				func(q impl.Queue) impl.Queue { x, _, _ := impl.Missed(q, min(i, 3)); return x },
				func(q impl.Queue) impl.Queue { list, _ := impl.Batch(q); return queue(nil, list...) },
			} {
				q, untouched := sized(i, j), sized(i, j)
				want := call(q)
				changeQueue(call(q))
				if !equalQueues(q, untouched) {
					t.Fatalf("a change of a result changed %s", briefQueue(q))
				}
				x := call(q)
				changeQueue(q)
				if !equalQueues(x, want) {
					t.Fatalf("a change of %s changed a result", briefQueue(untouched))
				}
			}
		}
	}
}

// changeQueue changes everything in the lists of q, their unused capacity too.
func changeQueue(q impl.Queue) {
	for i := range q.Items[:cap(q.Items)] {
		q.Items[:cap(q.Items)][i] = report(-1, -1, -1, "changed")
	}
	for i := range q.Recent[:cap(q.Recent)] {
		q.Recent[:cap(q.Recent)][i] = "changed"
	}
}

// TestPeersUnchanged: a list of peers and a group are the same after every
// call, and so is what they do not use.
func TestPeersUnchanged(t *testing.T) {
	named := someGroups()
	groups := append(slices.Clone(named), hardGroups()...)
	before := wholeGroups(groups)
	for _, g := range groups {
		impl.PeersOf(g)
		impl.KeepPeers(peers(4), g)
	}
	for _, list := range hardPeers() {
		listed := slices.Clone(list[:cap(list)])
		impl.PeersOK(list)
		for _, call := range peersCalls(named) {
			call(list)
		}
		for _, call := range peerCalls() {
			call(list)
		}
		if !slices.Equal(list[:cap(list)], listed) {
			t.Errorf("%s were changed", briefPeers(listed))
		}
	}
	if !slices.EqualFunc(wholeGroups(groups), before, sameGroup) {
		t.Error("a group was changed")
	}
}

// TestPeersAreNew: no result shares memory with an argument or with another
// result.
func TestPeersAreNew(t *testing.T) {
	found := 0
	named := someGroups()
	groups := append(slices.Clone(named), hardGroups()...)
	seen := map[any]bool{}
	for _, g := range groups {
		for _, place := range targetPlaces(g.Targets) {
			seen[place] = true
		}
	}
	// isNew keeps the places of results, so that none is used twice.
	isNew := func(list []impl.Peer) bool {
		for _, place := range peersPlaces(list) {
			if seen[place] {
				return false
			}
			seen[place] = true
			found++
		}
		return true
	}
	for _, g := range groups {
		for range 2 {
			if x, _ := impl.PeersOf(g); !isNew(x) {
				t.Fatalf("%s: peers share memory", briefGroup(g))
			}
		}
	}
	for _, list := range hardPeers() {
		for _, place := range peersPlaces(list) {
			seen[place] = true
		}
		for i, call := range peersCalls(named) {
			for range 2 {
				if x, _ := call(list); !isNew(x) {
					t.Fatalf("%s: results of call %d share memory", briefPeers(list), i)
				}
			}
		}
	}
	if found < 10000 {
		t.Errorf("only %d places", found)
	}
}

// TestChangesOfPeers: a change of a result is not seen in the arguments, nor
// one of the arguments in the result.
func TestChangesOfPeers(t *testing.T) {
	for n := 1; n <= impl.MaxTargets; n++ {
		for k := range n {
			for _, away := range []bool{false, true} {
				for i, call := range []func([]impl.Peer, impl.Group) []impl.Peer{
					func(list []impl.Peer, _ impl.Group) []impl.Peer { x, _ := impl.PeerFails(list, k, 7); return x },
					func(list []impl.Peer, _ impl.Group) []impl.Peer { x, _ := impl.PeerWorks(list, k); return x },
					func(list []impl.Peer, _ impl.Group) []impl.Peer { x, _ := impl.PeerGone(list, k); return x },
					func(list []impl.Peer, g impl.Group) []impl.Peer { x, _ := impl.KeepPeers(list, g); return x },
					func(_ []impl.Peer, g impl.Group) []impl.Peer { x, _ := impl.PeersOf(g); return x },
				} {
					arguments := func() ([]impl.Peer, impl.Group) {
						list := peers(n)
						list[k].Gone = away
						return list, group("a", 5, targets(n)...)
					}
					list, g := arguments()
					want := slices.Clone(call(list, g))
					x := call(list, g)
					changePeers(x)
					if sameList, sameG := arguments(); len(x) != n || !slices.Equal(list, sameList) || !sameGroup(g, sameG) {
						t.Fatalf("a change of the result of call %d changed an argument", i)
					}
					x = call(list, g)
					changePeers(list)
					for j := range g.Targets {
						g.Targets[j] = target("changed", -1, -1)
					}
					if !slices.Equal(x, want) {
						t.Fatalf("a change of an argument changed the result of call %d", i)
					}
				}
			}
		}
	}
}

// changePeers changes everything in a list, its unused capacity too.
func changePeers(list []impl.Peer) {
	for i := range list[:cap(list)] {
		list[:cap(list)][i] = gone(peer(target("changed", -1, -1), -1, -1))
	}
}
