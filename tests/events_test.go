package tests

import (
	"fmt"
	"slices"
	"strings"
	"testing"

	"loop.example/g00779/impl"
)

// does checks an event with its outcome, and what it changes.
func does(t *testing.T, p impl.Pipe, e impl.Event, outcome int, change func(*impl.Pipe)) {
	t.Helper()
	want := after(p, change)
	x, o, code := impl.DoEvent(p, e)
	if !equalPipes(x, want) || o != outcome || code != impl.OK {
		t.Errorf("DoEvent(%s, %s): got %s, %d, %d, not %s, %d", briefPipe(p), briefEvent(e), briefPipe(x), o, code, briefPipe(want), outcome)
	}
	if !impl.PipeOK(x) {
		t.Errorf("DoEvent(%s, %s): got the invalid pipeline %s", briefPipe(p), briefEvent(e), briefPipe(x))
	}
}

// leaves checks an event that changes nothing.
func leaves(t *testing.T, p impl.Pipe, e impl.Event, outcome int) {
	t.Helper()
	does(t, p, e, outcome, func(*impl.Pipe) {})
}

// done returns the pipeline after events of which each has the outcome 0.
func done(t *testing.T, p impl.Pipe, list ...impl.Event) impl.Pipe {
	t.Helper()
	for _, e := range list {
		x, outcome, code := impl.DoEvent(p, e)
		if outcome != 0 || code != impl.OK {
			t.Fatalf("DoEvent(%s, %s): got %d, %d", briefPipe(p), briefEvent(e), outcome, code)
		}
		p = x
	}
	return p
}

func newChannel(g impl.Group) impl.Channel {
	c := impl.Channel{Group: g}
	aimed(&c, g.Targets...)
	return c
}

// withChannels returns laden with n channels.
func withChannels(n int) impl.Pipe {
	return after(laden(), func(p *impl.Pipe) { p.Channels = channels(n) })
}

func TestEndpointsEvent(t *testing.T) {
	leaves(t, impl.NewPipe(), endpointsEvent(""), 0)
	leaves(t, laden(), endpointsEvent(" \t"), 0)
	does(t, impl.NewPipe(), endpointsEvent(`a="https://A.example#f"`), 0, func(p *impl.Pipe) {
		p.Channels = []impl.Channel{newChannel(endpoint("a", "https://a.example/"))}
	})
	does(t, laden(), endpointsEvent(`z="https://z/", a="https://a/"`), 0, func(p *impl.Pipe) {
		p.Channels = append(p.Channels, newChannel(endpoint("z", "https://z/")), newChannel(endpoint("a", "https://a/")))
	})
	// A part without a URL defines no group, and does not remove a channel.
	leaves(t, laden(), endpointsEvent(`csp="data:x"`), 0)
	leaves(t, laden(), endpointsEvent(`csp="https://a/", csp="data:x"`), 0)
	// Names are compared bytewise.
	does(t, laden(), endpointsEvent(`CSP="https://a/"`), 0, func(p *impl.Pipe) {
		p.Channels = append(p.Channels, newChannel(endpoint("CSP", "https://a/")))
	})
}

// TestGroupsSetAnew: a channel keeps its place and its queue, and its peers
// that are named again keep their state unless they are gone.
func TestGroupsSetAnew(t *testing.T) {
	for i, c := range laden().Channels {
		does(t, laden(), endpointsEvent(c.Group.Name+`="https://t0.example/"`), 0, func(p *impl.Pipe) {
			c := &p.Channels[i]
			c.Group = endpoint(c.Group.Name, "https://t0.example/")
			c.Peers = []impl.Peer{peer(c.Group.Targets[0], 1, 10)}
		})
		does(t, laden(), endpointsEvent(c.Group.Name+`="https://new/"`), 0, func(p *impl.Pipe) {
			c := &p.Channels[i]
			c.Group = endpoint(c.Group.Name, "https://new/")
			c.Peers = []impl.Peer{peer(c.Group.Targets[0], 0, 0)}
		})
	}
	header := `{"group":"other","max_age":7,"endpoints":[{"url":"https://t3.example/","priority":9,"weight":8},{"url":"https://new/"},{"url":"https://t1.example/"}]}`
	targets := []impl.Target{target("https://t3.example/", 9, 8), target("https://new/", 1, 1), target("https://t1.example/", 1, 1)}
	does(t, laden(), reportToEvent(header), 0, func(p *impl.Pipe) {
		p.Channels[1].Group = group("other", 7, targets...)
		p.Channels[1].Peers = []impl.Peer{peer(targets[0], 4, 40), peer(targets[1], 0, 0), peer(targets[2], 2, 20)}
	})
	away := after(laden(), func(p *impl.Pipe) { p.Channels[1].Peers[3].Gone = true })
	does(t, away, reportToEvent(header), 0, func(p *impl.Pipe) {
		p.Channels[1].Group = group("other", 7, targets...)
		p.Channels[1].Peers = []impl.Peer{peer(targets[0], 0, 0), peer(targets[1], 0, 0), peer(targets[2], 2, 20)}
	})
	// What other channels know of an endpoint does not count.
	does(t, laden(), endpointsEvent(`uri="https://t3.example/"`), 0, func(p *impl.Pipe) {
		p.Channels[2] = newChannel(endpoint("uri", "https://t3.example/"))
		p.Channels[2].Queue = sized(0, 1)
	})
	does(t, laden(), endpointsEvent(`n="https://t0.example/"`), 0, func(p *impl.Pipe) {
		p.Channels = append(p.Channels, newChannel(endpoint("n", "https://t0.example/")))
	})
}

// TestPlacesForGroups: headers with up to four groups, of which any may be
// known, are set if there are places for all; otherwise nothing is.
func TestPlacesForGroups(t *testing.T) {
	full := 0
	for n := range impl.MaxChannels + 1 {
		for count := 1; count <= 4; count++ {
			for known := range 1 << count {
				p := withChannels(n)
				var parts []string
				want := copied(p)
				usable := true
				for i := range count {
					name := fmt.Sprint("new", i)
					if known>>i&1 == 1 {
						name = fmt.Sprint("c", i)
						usable = usable && i < n
					}
					parts = append(parts, fmt.Sprintf(`%s="https://x%d/"`, name, i))
					set := newChannel(endpoint(name, fmt.Sprintf("https://x%d/", i)))
					if known>>i&1 == 1 && i < n {
						set.Queue = want.Channels[i].Queue
						want.Channels[i] = set
					} else {
						want.Channels = append(want.Channels, set)
					}
				}
				if !usable {
					continue
				}
				e := endpointsEvent(strings.Join(parts, ","))
				if len(want.Channels) > impl.MaxChannels {
					full++
					leaves(t, p, e, impl.ErrFull)
				} else {
					does(t, p, e, 0, func(p *impl.Pipe) { *p = want })
				}
			}
		}
	}
	if full < 40 {
		t.Errorf("only %d headers found no place", full)
	}
	// A later group is the one that finds no place, before or behind known ones.
	for _, header := range []string{`a="https://a/",b="https://b/"`, `c0="https://x/",a="https://a/",b="https://b/"`, `a="https://a/",c3="https://x/",b="https://b/",c1="https://y/"`} {
		leaves(t, withChannels(4), endpointsEvent(header), impl.ErrFull)
	}
	leaves(t, withChannels(5), endpointsEvent(`c0="https://x/",c1="https://x/",a="https://a/"`), impl.ErrFull)
	leaves(t, withChannels(5), reportToEvent(`{"max_age":5,"endpoints":[{"url":"https://a/"}]}`), impl.ErrFull)
	leaves(t, withChannels(5), policyEvent("report-uri https://a/"), impl.ErrFull)
	does(t, withChannels(4), policyEvent("report-uri https://a/"), 0, func(p *impl.Pipe) {
		p.Policy = impl.Policy{Uris: []string{"https://a/"}, Rules: []impl.Rule{rule("report-uri", "https://a/")}}
		p.Channels = append(p.Channels, newChannel(endpoint("uri", "https://a/")))
	})
}

// headersWithCodes are refused by the chapters before, with these codes.
var headersWithCodes = []struct {
	event impl.Event
	code  int
}{
	{endpointsEvent("x"), impl.ErrForm},
	{endpointsEvent(`a="https://a/",`), impl.ErrForm},
	{endpointsEvent(`csp="https://a/", b=`), impl.ErrForm},
	{endpointsEvent(`a="https://a/",b="https://a/",c="https://a/",d="https://a/",e="https://a/"`), impl.ErrMany},
	{endpointsEvent("\xff\x00"), impl.ErrForm},
	{reportToEvent(""), impl.ErrForm},
	{reportToEvent("{}x"), impl.ErrForm},
	{reportToEvent("[[[[[]]]]]"), impl.ErrDeep},
	{reportToEvent(`"` + strings.Repeat("a", 121) + `"`), impl.ErrSize},
	{reportToEvent(`{"a":1,"a":1}`), impl.ErrAgain},
	{reportToEvent("1000000000"), impl.ErrRange},
	{reportToEvent("[1,2,3,4,5,6,7,8,9,10,11,12,13]"), impl.ErrMany},
	{reportToEvent("[]"), impl.ErrKind},
	{reportToEvent(`{"group":"1"}`), impl.ErrName},
	{reportToEvent("{}"), impl.ErrRange},
	{reportToEvent(`{"group":"csp","max_age":101,"endpoints":[{"url":"https://a/"}]}`), impl.ErrRange},
	{reportToEvent(`{"group":"csp","max_age":1}`), impl.ErrKind},
	{reportToEvent(`{"group":"csp","max_age":1,"endpoints":[]}`), impl.ErrNone},
	{reportToEvent(`{"group":"csp","max_age":1,"endpoints":[{"url":"https://a/"},{"url":"https://b/"},{"url":"https://c/"},{"url":"https://d/"},{"url":"https://e/"}]}`), impl.ErrMany},
	{policyEvent("a;b;c;d;e;f;g;h;i"), impl.ErrMany},
	{policyEvent("report-uri https://a/;b;c;d;e;f;g;h;i"), impl.ErrMany},
	{policyEvent("report-to csp; a 1 2 3 4 5 6 7 8 9"), impl.ErrMany},
}

// TestCodesOfHeaders: with an error code of a header or a policy nothing
// changes.
func TestCodesOfHeaders(t *testing.T) {
	for _, v := range headersWithCodes {
		for _, p := range []impl.Pipe{impl.NewPipe(), laden(), withChannels(4), withChannels(5)} {
			leaves(t, p, v.event, v.code)
		}
		if p, outcomes, code := impl.RunEvents([]impl.Event{v.event}); !equalPipes(p, impl.NewPipe()) || !slices.Equal(outcomes, []int{v.code}) || code != impl.OK {
			t.Errorf("RunEvents(%s) = %s, %v, %d", briefEvent(v.event), briefPipe(p), outcomes, code)
		}
	}
}

func TestReportToEvent(t *testing.T) {
	targets := []impl.Target{target("https://a/", 1, 1), target("https://b/", 2, 3)}
	does(t, laden(), reportToEvent(`{"max_age":9,"endpoints":[{"url":"https://a"},{"url":"https://b/#f","priority":2,"weight":3},7]}`), 0, func(p *impl.Pipe) {
		p.Channels = append(p.Channels, newChannel(group("default", 9, targets...)))
	})
	does(t, impl.NewPipe(), reportToEvent(`{"endpoints":[{"url":"https://a/"}],"group":"g","max_age":100}`), 0, func(p *impl.Pipe) {
		p.Channels = []impl.Channel{newChannel(endpoint("g", "https://a/"))}
	})
}

func TestPolicyEvent(t *testing.T) {
	for _, v := range []struct {
		text string
		want impl.Policy
	}{
		{"", impl.Policy{}},
		{" ; \t", impl.Policy{}},
		{"Report-To other next", impl.Policy{ReportTo: "other", Rules: []impl.Rule{rule("report-to", "other", "next")}}},
		{"report-to 1", plain(rule("report-to", "1"))},
		{"a \xff; b", plain(rule("a", "\xff"), rule("b"))},
		// Without Uris there is no group either.
		{"report-uri", plain(rule("report-uri"))},
		{"report-uri data:x https", plain(rule("report-uri", "data:x", "https"))},
	} {
		for _, p := range []impl.Pipe{impl.NewPipe(), laden(), withChannels(5)} {
			does(t, p, policyEvent(v.text), 0, func(p *impl.Pipe) { p.Policy = v.want })
		}
	}
	uris := impl.Policy{
		ReportTo: "csp",
		Uris:     []string{"https://t0.example/", "https://u/"},
		Rules:    []impl.Rule{rule("report-uri", "https://T0.example#f", "https://u/", "https://u"), rule("report-to", "csp")},
	}
	uriGroup := group("uri", 100, target("https://t0.example/", 1, 1), target("https://u/", 2, 1))
	e := policyEvent("report-uri https://T0.example#f https://u/ https://u; report-to csp")
	does(t, impl.NewPipe(), e, 0, func(p *impl.Pipe) {
		p.Policy = uris
		p.Channels = []impl.Channel{newChannel(uriGroup)}
	})
	does(t, laden(), e, 0, func(p *impl.Pipe) {
		p.Policy = uris
		p.Channels[2].Group = uriGroup
		p.Channels[2].Peers = []impl.Peer{peer(uriGroup.Targets[0], 1, 10), peer(uriGroup.Targets[1], 0, 0)}
	})
	// The group of an earlier policy stays.
	does(t, laden(), policyEvent("a"), 0, func(p *impl.Pipe) { p.Policy = plain(rule("a")) })
}

// policies by which reports go to csp, to uri, or nowhere.
var (
	toCsp   = impl.Policy{ReportTo: "csp", Rules: []impl.Rule{rule("report-to", "csp")}}
	toUri   = impl.Policy{Uris: []string{"https://u/"}, Rules: []impl.Rule{rule("report-uri", "https://u/")}}
	toBoth  = impl.Policy{ReportTo: "csp", Uris: toUri.Uris, Rules: []impl.Rule{rule("report-uri", "https://u/"), rule("report-to", "csp")}}
	toOther = impl.Policy{ReportTo: "nowhere", Uris: toUri.Uris, Rules: []impl.Rule{rule("report-to", "nowhere"), rule("report-uri", "https://u/")}}
)

// pipe returns a pipeline with empty channels of these names.
func pipe(policy impl.Policy, names ...string) impl.Pipe {
	p := impl.Pipe{Policy: policy, Now: 7, Next: 5}
	for _, name := range names {
		p.Channels = append(p.Channels, newChannel(endpoint(name, "https://"+modelLower(name)+"/")))
	}
	return p
}

// TestViolationEvent: GroupFor tells the channel.
func TestViolationEvent(t *testing.T) {
	body := ofOrdinary().text()
	for _, v := range []struct {
		policy impl.Policy
		names  []string
		taken  int
	}{
		{toCsp, []string{"csp"}, 0},
		{toCsp, []string{"uri", "csp", "a"}, 1},
		{toCsp, []string{"uri", "CSP"}, -1},
		{toCsp, nil, -1},
		{toUri, []string{"csp", "uri"}, 1},
		{toUri, []string{"csp"}, -1},
		{toBoth, []string{"uri", "csp"}, 1},
		{toBoth, []string{"uri"}, -1},
		{toOther, []string{"csp", "uri"}, -1},
		{impl.Policy{}, []string{"csp", "uri", "default"}, -1},
		{impl.Policy{}, nil, -1},
	} {
		p := pipe(v.policy, v.names...)
		if v.taken < 0 {
			does(t, p, violationEvent(ordinary()), impl.ErrName, func(p *impl.Pipe) {
				p.Next = 6
				p.Log = []impl.Entry{entry(impl.FaUnknown, 5, 7)}
			})
			continue
		}
		does(t, p, violationEvent(ordinary()), 0, func(p *impl.Pipe) {
			p.Next = 6
			p.Channels[v.taken].Queue = queue([]string{body}, report(5, 7, 0, body))
			p.Log = []impl.Entry{entry(impl.FaQueued, 5, 7)}
		})
	}
}

// TestRecentViolation: a body that is recent is not queued again, even if no
// item has it any more; in another channel it is.
func TestRecentViolation(t *testing.T) {
	body := ofOrdinary().text()
	for _, q := range []impl.Queue{queue([]string{body}), queue([]string{"a", body, "b"}, items(5)...), queue([]string{"a", "b", "c", "d", "e", body}, report(1, 2, 3, body))} {
		p := after(laden(), func(p *impl.Pipe) { p.Channels[0].Queue = q })
		does(t, p, violationEvent(ordinary()), impl.ErrAgain, func(p *impl.Pipe) {
			p.Next = 52
			p.Log = append(p.Log, entry(impl.FaDuplicate, 51, 500))
		})
	}
	p := pipe(toCsp, "csp", "uri")
	p.Channels[1].Queue = queue([]string{body}, report(4, 0, 0, body))
	does(t, p, violationEvent(ordinary()), 0, func(p *impl.Pipe) {
		p.Next = 6
		p.Channels[0].Queue = queue([]string{body}, report(5, 7, 0, body))
		p.Log = []impl.Entry{entry(impl.FaQueued, 5, 7)}
	})
	// An item whose body is not recent is no obstacle.
	p.Channels[0].Queue = queue(nil, report(4, 0, 0, body))
	does(t, p, violationEvent(ordinary()), 0, func(p *impl.Pipe) {
		p.Next = 6
		p.Channels[0].Queue = queue([]string{body}, report(4, 0, 0, body), report(5, 7, 0, body))
		p.Log = []impl.Entry{entry(impl.FaQueued, 5, 7)}
	})
}

// TestEvictingViolation: with a full queue the entry of the new report comes
// first.
func TestEvictingViolation(t *testing.T) {
	body := ofOrdinary().text()
	for n := range impl.MaxQueue + 1 {
		p := after(laden(), func(p *impl.Pipe) { p.Channels[0].Queue = sized(n, n+1) })
		does(t, p, violationEvent(ordinary()), 0, func(p *impl.Pipe) {
			p.Next = 52
			q := &p.Channels[0].Queue
			all := append(items(n), report(51, 500, 0, body))
			*q = queue(newest(append(bodies(n+1), body), 6), newest(all, 5)...)
			p.Log = append(p.Log, entry(impl.FaQueued, 51, 500))
			if n == 5 {
				p.Log = append(p.Log, entry(impl.FaEvicted, 10, 500))
			}
		})
	}
}

// TestLastIds: the last Id is MaxNow - 1.
func TestLastIds(t *testing.T) {
	for _, policy := range []impl.Policy{toCsp, toUri, {}} {
		p := pipe(policy, "csp")
		p.Next = impl.MaxNow
		leaves(t, p, violationEvent(ordinary()), impl.ErrFull)
		p.Channels[0].Queue.Recent = []string{ofOrdinary().text()}
		leaves(t, p, violationEvent(ordinary()), impl.ErrFull)
	}
	p := pipe(toCsp, "csp")
	p.Next = impl.MaxNow - 1
	body := ofOrdinary().text()
	does(t, p, violationEvent(ordinary()), 0, func(p *impl.Pipe) {
		p.Next = impl.MaxNow
		p.Channels[0].Queue = queue([]string{body}, report(impl.MaxNow-1, 7, 0, body))
		p.Log = []impl.Entry{entry(impl.FaQueued, impl.MaxNow-1, 7)}
	})
	p.Policy = impl.Policy{}
	does(t, p, violationEvent(ordinary()), impl.ErrName, func(p *impl.Pipe) {
		p.Next = impl.MaxNow
		p.Log = []impl.Entry{entry(impl.FaUnknown, impl.MaxNow-1, 7)}
	})
	// Everything else goes on.
	p = after(laden(), func(p *impl.Pipe) { p.Next = impl.MaxNow })
	does(t, p, tickEvent(1), 0, func(p *impl.Pipe) {
		p.Now = 501
		p.Log = append(p.Log, expiries(501, 10, 20, 30, 40, 10, 20)...)
		p.Channels[0].Queue.Items = p.Channels[0].Queue.Items[4:]
		p.Channels[1].Queue.Items = nil
	})
}

func expiries(at int, ids ...int) []impl.Entry {
	var list []impl.Entry
	for _, id := range ids {
		list = append(list, entry(impl.FaExpired, id, at))
	}
	return list
}

func TestTickEvent(t *testing.T) {
	for _, v := range [][3]int{{0, 1, 1}, {0, 1000, 1000}, {7, 5, 12}, {999999, 1, 1000000}, {999999, 2, 1000000}, {999000, 1000, 1000000}, {999001, 1000, 1000000}, {1000000, 1, 1000000}, {1000000, 1000, 1000000}} {
		for _, p := range []impl.Pipe{{Next: 9}, pipe(toCsp, "csp", "uri")} {
			p.Now = v[0]
			does(t, p, tickEvent(v[1]), 0, func(p *impl.Pipe) { p.Now = v[2] })
		}
	}
}

// TestExpiry: a report expires when it is older than the Age of its group.
func TestExpiry(t *testing.T) {
	for _, age := range []int{1, 2, 50, 99, 100} {
		p := pipe(toCsp, "csp")
		p.Channels[0].Group.Age = age
		p.Channels[0].Queue = queue([]string{"a"}, report(3, 7, 0, "x"), report(4, 7, 3, "y"))
		does(t, p, tickEvent(age), 0, func(p *impl.Pipe) { p.Now = 7 + age })
		gone := func(p *impl.Pipe) {
			p.Now = 8 + age
			p.Channels[0].Queue.Items = nil
			p.Log = expiries(p.Now, 3, 4)
		}
		does(t, p, tickEvent(age+1), 0, gone)
		does(t, done(t, p, tickEvent(age)), tickEvent(1), 0, gone)
	}
	// At the end of time a report is not older than before, but a group may
	// have another Age.
	p := pipe(toCsp, "csp")
	p.Now = impl.MaxNow
	p.Channels[0].Queue = queue(nil, report(3, impl.MaxNow-5, 0, "x"), report(4, impl.MaxNow-4, 0, "y"))
	leaves(t, p, tickEvent(1000), 0)
	p.Channels[0].Group.Age = 4
	does(t, p, tickEvent(1), 0, func(p *impl.Pipe) {
		p.Channels[0].Queue.Items = p.Channels[0].Queue.Items[1:]
		p.Log = expiries(impl.MaxNow, 3)
	})
}

// TestExpiryInSeveralChannels: the entries are in the order of the channels,
// and not in that of the Ids.
func TestExpiryInSeveralChannels(t *testing.T) {
	p := pipe(toCsp, "a", "b", "c", "d", "e")
	p.Next = 26
	ages := []int{10, 20, 9, 30, 10}
	for i := range p.Channels {
		p.Channels[i].Group.Age = ages[i]
		for k := range 5 {
			p.Channels[i].Queue.Items = append(p.Channels[i].Queue.Items, report(5*k+5-i, k+i/2, 0, "x"))
		}
	}
	p.Now = 7
	// Of the channels a to e, Born is from 0, 0, 1, 1 and 2 on.
	does(t, p, tickEvent(6), 0, func(p *impl.Pipe) {
		p.Now = 13
		p.Channels[0].Queue.Items = p.Channels[0].Queue.Items[3:]
		p.Channels[2].Queue.Items = p.Channels[2].Queue.Items[3:]
		p.Channels[4].Queue.Items = p.Channels[4].Queue.Items[1:]
		p.Log = expiries(13, 5, 10, 15, 3, 8, 13, 1)
	})
	does(t, p, tickEvent(100), 0, func(p *impl.Pipe) {
		p.Now = 107
		for i := range p.Channels {
			p.Channels[i].Queue.Items = nil
		}
		p.Log = expiries(107, 5, 10, 15, 20, 25, 4, 9, 14, 19, 24, 3, 8, 13, 18, 23, 2, 7, 12, 17, 22, 1, 6, 11, 16, 21)
	})
}

// waiting returns a pipeline whose second channel has n reports, of which each
// has had one try more than the one before it.
func waiting(n int) impl.Pipe {
	p := pipe(toCsp, "a", "csp", "z")
	p.Now, p.Next = 90, 60
	p.Channels[1].Queue = sized(0, 2)
	for i := range n {
		p.Channels[1].Queue.Items = append(p.Channels[1].Queue.Items, report(11*(i+1), 20*i, i%4, fmt.Sprintf(`{"n":%d}`, i)))
	}
	p.Channels[0].Queue = queue(nil, report(1, 0, 3, "{}"))
	p.Channels[2].Queue = queue(nil, report(2, 0, 3, "{}"))
	p.Log = []impl.Entry{entry(1, 1, 0)}
	p.Wires = []impl.Wire{wire(5, 1)}
	return p
}

var waitingBodies = []string{
	`[]`,
	`[{"age":90,"body":{"n":0},"id":11}]`,
	`[{"age":90,"body":{"n":0},"id":11},{"age":70,"body":{"n":1},"id":22}]`,
	`[{"age":90,"body":{"n":0},"id":11},{"age":70,"body":{"n":1},"id":22},{"age":50,"body":{"n":2},"id":33}]`,
}

// TestAnswers sends with every Status at an edge, with and without Lost.
func TestAnswers(t *testing.T) {
	for n := 1; n <= impl.MaxQueue; n++ {
		sent := min(n, 3)
		for _, status := range []int{100, 101, 199, 200, 201, 204, 298, 299, 300, 399, 400, 404, 409, 410, 411, 500, 598, 599} {
			for _, isLost := range []bool{false, true} {
				e := sendEvent("csp", 5, status)
				e.Lost = isLost
				p := waiting(n)
				w := impl.Wire{At: 90, Status: status, Group: "csp", Url: "https://csp/", Ids: []int{11, 22, 33}[:sent], Body: waitingBodies[sent], Lost: isLost}
				outcome := impl.ErrLater
				switch {
				case status >= 200 && status <= 299 && !isLost:
					outcome = 0
				case status == 410 && !isLost:
					outcome = impl.ErrGone
				}
				does(t, p, e, outcome, func(p *impl.Pipe) {
					p.Wires = append(p.Wires, w)
					c := &p.Channels[1]
					if outcome == 0 {
						for _, r := range c.Queue.Items[:sent] {
							p.Log = append(p.Log, entry(impl.FaDelivered, r.Id, 90))
						}
						c.Queue.Items = c.Queue.Items[sent:]
						return
					}
					for i := range sent {
						c.Queue.Items[i].Tries++
					}
					if outcome == impl.ErrGone {
						c.Peers[0].Gone = true
					} else {
						c.Peers[0].Fails, c.Peers[0].RetryAt = 1, 92
					}
				})
			}
		}
	}
}

// TestExhaustedReports: reports of a batch whose last try fails are removed,
// whatever the reason and wherever they are in it.
func TestExhaustedReports(t *testing.T) {
	for n := 1; n <= impl.MaxQueue; n++ {
		for last := range 1 << n {
			p := waiting(n)
			for i := range n {
				p.Channels[1].Queue.Items[i].Tries = 2 + last>>i&1
			}
			for _, e := range []impl.Event{sendEvent("csp", 0, 500), lost(sendEvent("csp", 0, 200)), lost(sendEvent("csp", 0, 410)), sendEvent("csp", 0, 410)} {
				outcome := impl.ErrLater
				if e.Status == 410 && !e.Lost {
					outcome = impl.ErrGone
				}
				sent := min(n, 3)
				does(t, p, e, outcome, func(p *impl.Pipe) {
					c := &p.Channels[1]
					p.Wires = append(p.Wires, impl.Wire{At: 90, Status: e.Status, Group: "csp", Url: "https://csp/", Ids: []int{11, 22, 33}[:sent], Body: waitingBodies[sent], Lost: e.Lost})
					var left []impl.Report
					for i, r := range c.Queue.Items {
						if i < sent {
							r.Tries++
						}
						if r.Tries == 4 {
							p.Log = append(p.Log, entry(impl.FaExhausted, r.Id, 90))
						} else {
							left = append(left, r)
						}
					}
					c.Queue.Items = left
					if outcome == impl.ErrGone {
						c.Peers[0].Gone = true
					} else {
						c.Peers[0].Fails, c.Peers[0].RetryAt = 1, 92
					}
				})
			}
		}
	}
}

// TestRefusedSends: without a channel, a report or a ready peer, in this order,
// nothing changes.
func TestRefusedSends(t *testing.T) {
	for _, e := range []impl.Event{sendEvent("none", 0, 200), sendEvent("Csp", 0, 410), lost(sendEvent("cs", 9, 200)), sendEvent("csp_", 9, 200)} {
		leaves(t, waiting(3), e, impl.ErrName)
		leaves(t, waiting(0), e, impl.ErrName)
		leaves(t, impl.NewPipe(), e, impl.ErrName)
	}
	unready := []func(*impl.Peer){
		func(p *impl.Peer) { p.Gone = true },
		func(p *impl.Peer) { p.Fails, p.RetryAt = 1, 91 },
		func(p *impl.Peer) { p.Fails, p.RetryAt = 9, 1000032 },
		func(p *impl.Peer) { p.Fails, p.RetryAt, p.Gone = 1, 90, true },
	}
	for _, status := range []int{100, 200, 299, 300, 410, 500} {
		for _, e := range []impl.Event{sendEvent("csp", 0, status), lost(sendEvent("csp", 1000000, status))} {
			leaves(t, waiting(0), e, impl.ErrNone)
			for _, change := range unready {
				for n := range impl.MaxQueue + 1 {
					outcome := impl.ErrLater
					if n == 0 {
						outcome = impl.ErrNone
					}
					leaves(t, after(waiting(n), func(p *impl.Pipe) { change(&p.Channels[1].Peers[0]) }), e, outcome)
				}
			}
		}
	}
	// A peer whose time has come is ready.
	ready := after(waiting(1), func(p *impl.Pipe) { p.Channels[1].Peers[0] = until(p.Channels[1].Peers[0], 90) })
	if x := done(t, ready, sendEvent("csp", 0, 200)); len(x.Wires) != 2 {
		t.Errorf("nothing was sent: %s", briefPipe(x))
	}
}

// TestDraws: every draw sends to the peer that Choose tells, and its state
// alone changes.
func TestDraws(t *testing.T) {
	p := after(waiting(2), func(p *impl.Pipe) {
		aimed(&p.Channels[1], target("https://late/", 1, 9), target("https://a/", 2, 2), target("https://b/", 2, 1), target("https://gone/", 1, 3))
		list := p.Channels[1].Peers
		list[0].Fails, list[0].RetryAt = 2, 91
		list[1].Fails, list[1].RetryAt = 1, 90
		list[3].Gone = true
	})
	for draw, k := range []int{1, 1, 2, 1, 1, 2, 1, 1, 2} {
		w := impl.Wire{At: 90, Group: "csp", Url: p.Channels[1].Peers[k].Target.Url, Ids: []int{11, 22}, Body: waitingBodies[2]}
		for _, v := range []struct {
			status, outcome int
			change          func(*impl.Peer)
		}{
			{200, 0, func(x *impl.Peer) { x.Fails, x.RetryAt = 0, 0 }},
			{500, impl.ErrLater, func(x *impl.Peer) { x.RetryAt = 92 + 2*x.Fails; x.Fails++ }},
			{410, impl.ErrGone, func(x *impl.Peer) { x.Gone = true }},
		} {
			w.Status = v.status
			does(t, p, sendEvent("csp", draw, v.status), v.outcome, func(p *impl.Pipe) {
				c := &p.Channels[1]
				p.Wires = append(p.Wires, w)
				v.change(&c.Peers[k])
				if v.outcome == 0 {
					p.Log = append(p.Log, entry(impl.FaDelivered, 11, 90), entry(impl.FaDelivered, 22, 90))
					c.Queue.Items = nil
					return
				}
				c.Queue.Items[0].Tries++
				c.Queue.Items[1].Tries++
			})
		}
	}
}

// TestWireOfLongReports: the bodies of a wire are told as they are.
func TestWireOfLongReports(t *testing.T) {
	p := waiting(3)
	long := strings.Repeat("\xff\"\\\x00", 2000)
	for i := range p.Channels[1].Queue.Items {
		p.Channels[1].Queue.Items[i].Body = long
	}
	p.Now = impl.MaxNow
	x := done(t, p, sendEvent("csp", 0, 200))
	want := `[{"age":1000000,"body":` + long + `,"id":11},{"age":999980,"body":` + long + `,"id":22},{"age":999960,"body":` + long + `,"id":33}]`
	if len(x.Wires) != 2 || x.Wires[1].Body != want {
		t.Error("the body of the wire is wrong")
	}
}

// limited returns waiting(4) with as many entries and wires.
func limited(entries, wires int) impl.Pipe {
	p := waiting(4)
	p.Log = slices.Repeat(p.Log, entries)
	p.Wires = slices.Repeat(p.Wires, wires)
	return p
}

// eventsOfAllOutcomes are valid.
func eventsOfAllOutcomes() []impl.Event {
	list := append(eventsOfEachKind(), sendEvent("none", 0, 200), sendEvent("csp", 0, 410), sendEvent("csp", 0, 500), policyEvent("report-uri https://u/"))
	for _, v := range headersWithCodes {
		list = append(list, v.event)
	}
	return list
}

// TestFullPipes: with more than MaxList - 25 entries or MaxList wires there is
// no outcome, and nothing changes.
func TestFullPipes(t *testing.T) {
	for _, v := range []struct {
		entries, wires int
		full           bool
	}{
		{4070, 1, false}, {4071, 1, false}, {4072, 1, true}, {4073, 0, true}, {4095, 1, true}, {4096, 1, true},
		{0, 4095, false}, {0, 4096, true}, {4071, 4095, false}, {4072, 4095, true}, {4071, 4096, true}, {4096, 4096, true},
	} {
		p := limited(v.entries, v.wires)
		for _, e := range eventsOfAllOutcomes() {
			x, outcome, code := impl.DoEvent(p, e)
			if v.full && (!equalPipes(x, p) || outcome != 0 || code != impl.ErrFull) {
				t.Errorf("%d entries, %d wires: DoEvent(%s) = %s, %d, %d", v.entries, v.wires, briefEvent(e), briefPipe(x), outcome, code)
			}
			if !v.full && (!impl.PipeOK(x) || code != impl.OK) {
				t.Errorf("%d entries, %d wires: DoEvent(%s) = %s, %d, %d", v.entries, v.wires, briefEvent(e), briefPipe(x), outcome, code)
			}
		}
		refusesEvent(t, p, impl.Event{})
		refusesEvent(t, p, tickEvent(0))
		refusesEvent(t, after(p, func(p *impl.Pipe) { p.Now = -1 }), tickEvent(1))
	}
	// There is room for all that one tick may expire.
	p := limited(4071, 0)
	p.Channels = nil
	p.Now = 500
	for i, name := range []string{"a", "b", "c", "d", "e"} {
		c := newChannel(endpoint(name, "https://a/"))
		for k := range 5 {
			c.Queue.Items = append(c.Queue.Items, report(1+5*i+k, 400, 0, "x"))
		}
		p.Channels = append(p.Channels, c)
	}
	x := done(t, p, tickEvent(1))
	if len(x.Log) != 4096 || x.Log[4095] != entry(impl.FaExpired, 25, 501) || !impl.PipeOK(x) {
		t.Errorf("a tick in a pipeline with 4071 entries: %s", briefPipe(x))
	}
	// There is room for one wire.
	y := done(t, limited(0, 4095), sendEvent("csp", 0, 200))
	if len(y.Wires) != 4096 || !impl.PipeOK(y) {
		t.Errorf("a batch in a pipeline with 4095 wires: %s", briefPipe(y))
	}
}

func runs(t *testing.T, list []impl.Event, want impl.Pipe, outcomes ...int) {
	t.Helper()
	p, told, code := impl.RunEvents(list)
	if !equalPipes(p, want) || !slices.Equal(told, outcomes) || code != impl.OK {
		t.Errorf("RunEvents of %d events: got %s, %v, %d, not %s, %v", len(list), briefPipe(p), told, code, briefPipe(want), outcomes)
	}
}

func TestRunEvents(t *testing.T) {
	runs(t, nil, impl.NewPipe())
	runs(t, []impl.Event{}, impl.NewPipe())
	runs(t, []impl.Event{tickEvent(5)}, impl.Pipe{Now: 5, Next: 1}, 0)
	body := ofOrdinary().text()
	want := pipe(toUri, "uri")
	want.Channels[0] = newChannel(group("uri", 100, target("https://u/", 1, 1)))
	want.Channels[0].Queue.Recent = []string{body}
	want.Now, want.Next = 3, 4
	want.Log = []impl.Entry{entry(impl.FaUnknown, 1, 0), entry(impl.FaQueued, 2, 0), entry(impl.FaDelivered, 2, 3), entry(impl.FaDuplicate, 3, 3)}
	want.Wires = []impl.Wire{{At: 3, Status: 299, Group: "uri", Url: "https://u/", Ids: []int{2}, Body: `[{"age":3,"body":` + body + `,"id":2}]`}}
	runs(t, []impl.Event{
		sendEvent("uri", 0, 200), endpointsEvent("x"), violationEvent(ordinary()), policyEvent("report-uri https://u/"), sendEvent("uri", 0, 200),
		violationEvent(ordinary()), tickEvent(3), sendEvent("uri", 8, 299), violationEvent(ordinary()), reportToEvent("[]"),
	}, want, impl.ErrName, impl.ErrForm, impl.ErrName, 0, impl.ErrNone, 0, 0, 0, impl.ErrAgain, impl.ErrKind)
}

func TestRunLengths(t *testing.T) {
	for _, n := range []int{1, 2, 59, 60} {
		runs(t, slices.Repeat([]impl.Event{tickEvent(1)}, n), impl.Pipe{Now: n, Next: 1}, make([]int, n)...)
		for i := range n {
			list := slices.Repeat([]impl.Event{tickEvent(1)}, n)
			list[i] = tickEvent(0)
			refusesRun(t, impl.ErrBad, list...)
		}
	}
	for _, n := range []int{61, 62, 100, 4096} {
		refusesRun(t, impl.ErrMany, slices.Repeat([]impl.Event{tickEvent(1)}, n)...)
		refusesRun(t, impl.ErrMany, make([]impl.Event, n)...)
	}
	for _, n := range []int{4097, 1 << 16} {
		refusesRun(t, impl.ErrLong, slices.Repeat([]impl.Event{tickEvent(1)}, n)...)
		refusesRun(t, impl.ErrLong, make([]impl.Event, n)...)
	}
}
