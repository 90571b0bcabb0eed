package tests

import (
	"fmt"
	"math"
	"slices"
	"strings"
	"testing"

	"loop.example/g00779/impl"
)

// channel returns a channel with n peers that failed before.
func channel(name string, n int, q impl.Queue) impl.Channel {
	return impl.Channel{Group: group(name, 60, targets(n)...), Peers: peers(n), Queue: q}
}

func entry(kind, id, at int) impl.Entry { return impl.Entry{Kind: kind, Id: id, At: at} }

func wire(at int, ids ...int) impl.Wire {
	return impl.Wire{At: at, Status: 200, Group: "csp", Url: "https://t0.example/", Ids: ids, Body: "[]"}
}

// laden returns a valid pipeline in which nothing is empty. It is no valid one
// at an earlier time than 500 or with a Next below 51.
func laden() impl.Pipe {
	uri := rule("report-uri", "https://u.example/1", "https://u.example/2")
	return impl.Pipe{
		Channels: []impl.Channel{channel("csp", 2, sized(5, 6)), channel("other", 4, sized(2, 3)), channel("uri", 1, sized(0, 1))},
		Policy:   impl.Policy{ReportTo: "csp", Uris: uri.Words, Rules: []impl.Rule{rule("report-to", "csp", "x"), uri, rule("a")}},
		Now:      500,
		Next:     51,
		Log:      []impl.Entry{entry(1, 10, 100), entry(1, 20, 100), entry(3, 7, 499), entry(7, 50, 500)},
		Wires:    []impl.Wire{wire(500, 1, 2, 50), {At: 3, Status: 410, Group: "gone", Ids: []int{7}, Lost: true}},
	}
}

// copied returns a copy of p that shares no slice with it.
func copied(p impl.Pipe) impl.Pipe {
	p.Channels, p.Log, p.Wires = slices.Clone(p.Channels), slices.Clone(p.Log), slices.Clone(p.Wires)
	for i, c := range p.Channels {
		c.Group.Targets, c.Peers = slices.Clone(c.Group.Targets), slices.Clone(c.Peers)
		c.Queue = queue(slices.Clone(c.Queue.Recent), slices.Clone(c.Queue.Items)...)
		p.Channels[i] = c
	}
	p.Policy.Uris, p.Policy.Rules = slices.Clone(p.Policy.Uris), slices.Clone(p.Policy.Rules)
	for i, r := range p.Policy.Rules {
		p.Policy.Rules[i].Words = slices.Clone(r.Words)
	}
	for i, w := range p.Wires {
		p.Wires[i].Ids = slices.Clone(w.Ids)
	}
	return p
}

// after returns a copy of p after a change.
func after(p impl.Pipe, change func(*impl.Pipe)) impl.Pipe {
	p = copied(p)
	change(&p)
	return p
}

// equalPipes compares without the program.
func equalPipes(a, b impl.Pipe) bool {
	return a.Now == b.Now && a.Next == b.Next && samePolicy(a.Policy, b.Policy) && slices.Equal(a.Log, b.Log) &&
		slices.EqualFunc(a.Channels, b.Channels, equalChannels) && slices.EqualFunc(a.Wires, b.Wires, equalWires)
}

func equalChannels(a, b impl.Channel) bool {
	return sameGroup(a.Group, b.Group) && slices.Equal(a.Peers, b.Peers) && equalQueues(a.Queue, b.Queue)
}

func equalWires(a, b impl.Wire) bool {
	return a.At == b.At && a.Status == b.Status && a.Group == b.Group && a.Url == b.Url &&
		slices.Equal(a.Ids, b.Ids) && a.Body == b.Body && a.Lost == b.Lost
}

func isNoPipe(p impl.Pipe) bool { return equalPipes(p, impl.Pipe{}) }

// briefPipe leaves out all but the ends of the log and of the wires.
func briefPipe(p impl.Pipe) string {
	entries, wires := len(p.Log), len(p.Wires)
	p.Log, p.Wires = newest(p.Log, 30), newest(p.Wires, 2)
	return fmt.Sprintf("%d entries, %d wires: %.3000q", entries, wires, fmt.Sprintf("%+v", p))
}

func briefEvent(e impl.Event) string { return fmt.Sprintf("%.500q", fmt.Sprintf("%+v", e)) }

func endpointsEvent(text string) impl.Event {
	return impl.Event{Kind: impl.EvEndpoints, Text: text}
}

func reportToEvent(text string) impl.Event { return impl.Event{Kind: impl.EvReportTo, Text: text} }

func policyEvent(text string) impl.Event { return impl.Event{Kind: impl.EvPolicy, Text: text} }

func violationEvent(v impl.Violation) impl.Event {
	return impl.Event{Kind: impl.EvViolation, Violation: v}
}

func tickEvent(n int) impl.Event { return impl.Event{Kind: impl.EvTick, Ticks: n} }

func sendEvent(name string, draw, status int) impl.Event {
	return impl.Event{Kind: impl.EvSend, Name: name, Draw: draw, Status: status}
}

func lost(e impl.Event) impl.Event {
	e.Lost = true
	return e
}

// eventsOfEachKind are valid.
func eventsOfEachKind() []impl.Event {
	return []impl.Event{
		endpointsEvent(`a="https://a/"`), reportToEvent(`{"max_age":5,"endpoints":[{"url":"https://a/"}]}`), policyEvent("report-to csp"),
		violationEvent(ordinary()), tickEvent(1), sendEvent("csp", 0, 200), lost(sendEvent("csp", 0, 200)),
	}
}

// isPipe checks that every function takes a valid pipeline.
func isPipe(t *testing.T, p impl.Pipe) {
	t.Helper()
	if !impl.PipeOK(p) || !impl.SamePipe(p, p) || !impl.SamePipe(p, copied(p)) {
		t.Errorf("%s is valid", briefPipe(p))
	}
	for _, e := range eventsOfEachKind() {
		x, _, code := impl.DoEvent(p, e)
		if code == impl.ErrBad || !impl.PipeOK(x) {
			t.Errorf("DoEvent(%s, %s): got %s, %d", briefPipe(p), briefEvent(e), briefPipe(x), code)
		}
	}
	matchesFates(t, p)
}

// noPipe checks that every function refuses an invalid pipeline.
func noPipe(t *testing.T, p impl.Pipe) {
	t.Helper()
	if impl.PipeOK(p) {
		t.Errorf("PipeOK: %s is invalid", briefPipe(p))
	}
	for _, other := range []impl.Pipe{{}, impl.NewPipe(), laden()} {
		if impl.SamePipe(p, p) || impl.SamePipe(p, other) || impl.SamePipe(other, p) {
			t.Errorf("SamePipe: %s is invalid", briefPipe(p))
		}
	}
	for _, e := range append(eventsOfEachKind(), impl.Event{}) {
		refusesEvent(t, p, e)
	}
	refusesFates(t, p)
}

func refusesEvent(t *testing.T, p impl.Pipe, e impl.Event) {
	t.Helper()
	if x, outcome, code := impl.DoEvent(p, e); !isNoPipe(x) || outcome != 0 || code != impl.ErrBad {
		t.Errorf("DoEvent(%s, %s): got %s, %d, %d, not ErrBad", briefPipe(p), briefEvent(e), briefPipe(x), outcome, code)
	}
}

// isLaden and noLaden check a change of a valid pipeline.
func isLaden(t *testing.T, change func(*impl.Pipe)) {
	t.Helper()
	isPipe(t, after(laden(), change))
}

func noLaden(t *testing.T, change func(*impl.Pipe)) {
	t.Helper()
	noPipe(t, after(laden(), change))
}

func TestPipeConstants(t *testing.T) {
	if impl.MaxChannels != 5 || impl.MaxEvents != 60 || impl.MaxTicks != 1000 {
		t.Error("a limit of chapter 9 is wrong")
	}
	for i, kind := range []int{impl.EvEndpoints, impl.EvReportTo, impl.EvPolicy, impl.EvViolation, impl.EvTick, impl.EvSend} {
		if kind != i+1 {
			t.Errorf("the Kind of event %d is %d", i+1, kind)
		}
	}
	for i, kind := range []int{impl.FaQueued, impl.FaDelivered, impl.FaEvicted, impl.FaExpired, impl.FaExhausted, impl.FaDuplicate, impl.FaUnknown} {
		if kind != i+1 {
			t.Errorf("the Kind of entry %d is %d", i+1, kind)
		}
	}
}

func TestNewPipe(t *testing.T) {
	p := impl.NewPipe()
	if !equalPipes(p, impl.Pipe{Next: 1}) {
		t.Errorf("NewPipe() = %s", briefPipe(p))
	}
	isPipe(t, p)
	isPipe(t, laden())
	noPipe(t, impl.Pipe{})
}

func TestPipeTimes(t *testing.T) {
	for _, now := range []int{0, 1, 999999, 1000000} {
		isPipe(t, impl.Pipe{Now: now, Next: 1})
	}
	for _, now := range []int{math.MinInt, -1 << 32, -1, 1000001, 1<<32 + 5, math.MaxInt} {
		noPipe(t, impl.Pipe{Now: now, Next: 1})
		noLaden(t, func(p *impl.Pipe) { p.Now = now })
	}
	for _, now := range []int{500, 501, 1000000} {
		isLaden(t, func(p *impl.Pipe) { p.Now = now })
	}
	for _, next := range []int{1, 2, 999999, 1000000} {
		isPipe(t, impl.Pipe{Next: next})
	}
	for _, next := range []int{math.MinInt, -1 << 32, -1, 0, 1000001, 1<<32 + 60, math.MaxInt} {
		noPipe(t, impl.Pipe{Next: next})
		noLaden(t, func(p *impl.Pipe) { p.Next = next })
	}
	for _, next := range []int{51, 52, 1000000} {
		isLaden(t, func(p *impl.Pipe) { p.Next = next })
	}
}

// channels returns n channels with different names.
func channels(n int) []impl.Channel {
	var list []impl.Channel
	for i := range n {
		list = append(list, channel(fmt.Sprint("c", i), 1+i%4, sized(i%6, i%7)))
	}
	return list
}

func TestChannelCounts(t *testing.T) {
	for n := range impl.MaxChannels + 1 {
		isLaden(t, func(p *impl.Pipe) { p.Channels = channels(n) })
	}
	for _, n := range []int{6, 7, 10, 100, 4096, 4097} {
		noLaden(t, func(p *impl.Pipe) { p.Channels = channels(n) })
		noLaden(t, func(p *impl.Pipe) { p.Channels = make([]impl.Channel, n) })
	}
	noLaden(t, func(p *impl.Pipe) { p.Channels = make([]impl.Channel, 1) })
}

func TestChannelNames(t *testing.T) {
	for n := 2; n <= impl.MaxChannels; n++ {
		for i := range n {
			for j := range i {
				noLaden(t, func(p *impl.Pipe) {
					p.Channels = channels(n)
					p.Channels[i].Group.Name = p.Channels[j].Group.Name
				})
				noLaden(t, func(p *impl.Pipe) {
					p.Channels = channels(n)
					p.Channels[i] = p.Channels[j]
				})
				isLaden(t, func(p *impl.Pipe) {
					p.Channels = channels(n)
					p.Channels[i].Group.Name = "C" + p.Channels[j].Group.Name[1:]
				})
			}
		}
	}
}

// isChannel and noChannel check a change of a channel in each place.
func isChannel(t *testing.T, change func(*impl.Channel)) {
	t.Helper()
	for i := range laden().Channels {
		isLaden(t, func(p *impl.Pipe) { change(&p.Channels[i]) })
	}
}

func noChannel(t *testing.T, change func(*impl.Channel)) {
	t.Helper()
	for i := range laden().Channels {
		noLaden(t, func(p *impl.Pipe) { change(&p.Channels[i]) })
	}
}

// aimed gives a channel these targets, and peers with them.
func aimed(c *impl.Channel, list ...impl.Target) {
	c.Group.Targets, c.Peers = list, nil
	for _, x := range list {
		c.Peers = append(c.Peers, peer(x, 0, 0))
	}
}

func TestChannelGroups(t *testing.T) {
	for _, name := range []string{"x", "_", "Uri", "a_2345678901"} {
		isChannel(t, func(c *impl.Channel) { c.Group.Name = name })
	}
	for _, name := range []string{"", "1", "a b", "a_23456789012", "\xff", strings.Repeat("a", impl.MaxText+1)} {
		noChannel(t, func(c *impl.Channel) { c.Group.Name = name })
	}
	for _, age := range []int{1, 100} {
		isChannel(t, func(c *impl.Channel) { c.Group.Age = age })
	}
	for _, age := range []int{math.MinInt, -1, 0, 101, math.MaxInt} {
		noChannel(t, func(c *impl.Channel) { c.Group.Age = age })
	}
	for n := range 10 {
		if n >= 1 && n <= 4 {
			isChannel(t, func(c *impl.Channel) { aimed(c, targets(n)...) })
		} else {
			noChannel(t, func(c *impl.Channel) { aimed(c, targets(n)...) })
		}
	}
	for _, x := range []impl.Target{{}, target("https://x", 1, 1), target("data:x", 1, 1), target("https://x/", 0, 1), target("https://x/", 10, 1), target("https://x/", 1, 0), target("https://x/", 1, 10)} {
		noChannel(t, func(c *impl.Channel) { aimed(c, x) })
	}
	isChannel(t, func(c *impl.Channel) { aimed(c, target("https://x/", 9, 9)) })
	noChannel(t, func(c *impl.Channel) { aimed(c, target("https://x/", 1, 1), target("https://x/", 2, 2)) })
}

// TestChannelPeers: the peers are valid, and have the targets of the group in
// its order.
func TestChannelPeers(t *testing.T) {
	for _, p := range []impl.Peer{peer(impl.Target{}, 0, 0), peer(impl.Target{}, 1, 0), peer(impl.Target{}, 1000000, 1000032), gone(peer(impl.Target{}, 3, 600)), gone(impl.Peer{})} {
		isChannel(t, func(c *impl.Channel) {
			p.Target = c.Peers[0].Target
			c.Peers[0] = p
		})
	}
	for _, p := range []impl.Peer{peer(impl.Target{}, 0, 1), peer(impl.Target{}, -1, 0), peer(impl.Target{}, 1, -1), peer(impl.Target{}, 1000001, 0), peer(impl.Target{}, 1, 1000033), gone(peer(impl.Target{}, -1, 0))} {
		noChannel(t, func(c *impl.Channel) {
			p.Target = c.Peers[0].Target
			c.Peers[0] = p
		})
	}
	for _, change := range []func(*impl.Peer){
		func(p *impl.Peer) { p.Target.Url = "https://x/" },
		func(p *impl.Peer) { p.Target.Url += "?" },
		func(p *impl.Peer) { p.Target.Url = "" },
		func(p *impl.Peer) { p.Target.Priority = p.Target.Priority%9 + 1 },
		func(p *impl.Peer) { p.Target.Weight = p.Target.Weight%9 + 1 },
		func(p *impl.Peer) { p.Target = impl.Target{} },
	} {
		for i := range 4 {
			noLaden(t, func(p *impl.Pipe) { change(&p.Channels[1].Peers[i]) })
		}
	}
	noChannel(t, func(c *impl.Channel) { c.Peers = nil })
	noChannel(t, func(c *impl.Channel) { c.Peers = c.Peers[1:] })
	noChannel(t, func(c *impl.Channel) { c.Peers = c.Peers[:len(c.Peers)-1] })
	noChannel(t, func(c *impl.Channel) { c.Peers = append(c.Peers, ranked("x", 1, 1)) })
	noChannel(t, func(c *impl.Channel) { c.Peers = append(c.Peers, c.Peers[0]) })
	noChannel(t, func(c *impl.Channel) { c.Peers = append(c.Peers, impl.Peer{}) })
	for i := range 4 {
		for j := range i {
			noLaden(t, func(p *impl.Pipe) {
				list := p.Channels[1].Peers
				list[i], list[j] = list[j], list[i]
			})
			noLaden(t, func(p *impl.Pipe) { p.Channels[1].Peers[i] = p.Channels[1].Peers[j] })
		}
	}
}

func TestChannelQueues(t *testing.T) {
	for i := range 8 {
		for j := range 9 {
			if i <= 5 && j <= 6 {
				isChannel(t, func(c *impl.Channel) { c.Queue = sized(i, j) })
			} else {
				noChannel(t, func(c *impl.Channel) { c.Queue = sized(i, j) })
			}
		}
	}
	noChannel(t, func(c *impl.Channel) { c.Queue.Recent = []string{"a", "b", "a"} })
	noChannel(t, func(c *impl.Channel) { c.Queue.Recent = []string{""} })
	for _, r := range []impl.Report{{}, report(0, 0, 0, "a"), report(1, -1, 0, "a"), report(1, 0, -1, "a"), report(1, 0, 4, "a"), report(1, 0, 0, ""), report(1, 0, 0, strings.Repeat("a", 8001)), report(math.MinInt, 0, 0, "a"), report(1, math.MinInt, 0, "a")} {
		noChannel(t, func(c *impl.Channel) { c.Queue.Items = []impl.Report{r} })
	}
	noChannel(t, func(c *impl.Channel) { c.Queue.Items = []impl.Report{report(2, 0, 0, "a"), report(2, 0, 0, "b")} })
	noChannel(t, func(c *impl.Channel) { c.Queue.Items = []impl.Report{report(2, 1, 0, "a"), report(3, 0, 0, "b")} })
}

// TestQueuesAtPresent: an Id is less than Next, and Born is at most Now.
func TestQueuesAtPresent(t *testing.T) {
	for _, id := range []int{50, 51, 52, 60, 1000000} {
		for _, born := range []int{500, 501, 502, 600, 1000000} {
			change := func(c *impl.Channel) {
				c.Queue.Items = []impl.Report{report(id, born, 0, "z")}
			}
			if id < 51 && born <= 500 {
				isChannel(t, change)
			} else {
				noChannel(t, change)
			}
			isLaden(t, func(p *impl.Pipe) {
				p.Now, p.Next = born, min(id+1, 1000000)
				p.Channels[2].Queue.Items = []impl.Report{report(p.Next-1, born, 0, "z")}
			})
		}
	}
	noLaden(t, func(p *impl.Pipe) { p.Next = 50 })
	noLaden(t, func(p *impl.Pipe) { p.Now = 499 })
}

func TestPipePolicies(t *testing.T) {
	for _, p := range []impl.Policy{{}, plain(rules('a', 8)...), plain(rule("a", words(8)...)), plain(rule("report-to", "1")), plain(rule("report-uri", "data:x")), {ReportTo: "none", Rules: []impl.Rule{rule("report-to", "none")}}, plain(rule("a", strings.Repeat("w", impl.MaxText+1)))} {
		isLaden(t, func(x *impl.Pipe) { x.Policy = p })
	}
	for _, p := range []impl.Policy{{ReportTo: "csp"}, {Uris: []string{"https://x/"}}, plain(rules('a', 9)...), plain(rule("a", words(9)...)), plain(rule("")), plain(rule("A")), plain(rule("a", "")), plain(rule("a", "b;c")), plain(rule("a"), rule("a")), plain(rule("report-to", "csp")), plain(rule("report-uri", "https://x/"))} {
		noLaden(t, func(x *impl.Pipe) { x.Policy = p })
	}
}

// isEntry and noEntry check an entry alone in the log, and in each place of
// one; its time must then be 100.
func isEntry(t *testing.T, x impl.Entry) {
	t.Helper()
	isLaden(t, func(p *impl.Pipe) { p.Log = []impl.Entry{x} })
	x.At = 100
	for i := range 3 {
		isLaden(t, func(p *impl.Pipe) { p.Log = slices.Insert(p.Log[:2], i, x) })
	}
}

func noEntry(t *testing.T, x impl.Entry) {
	t.Helper()
	noLaden(t, func(p *impl.Pipe) { p.Log = []impl.Entry{x} })
	for i := range len(laden().Log) + 1 {
		noLaden(t, func(p *impl.Pipe) { p.Log = slices.Insert(p.Log, i, x) })
	}
}

func TestEntries(t *testing.T) {
	for kind := 1; kind <= 7; kind++ {
		isEntry(t, entry(kind, 5, 100))
	}
	for _, kind := range []int{math.MinInt, -1, 0, 8, 9, 1<<32 + 1, math.MaxInt} {
		noEntry(t, entry(kind, 5, 100))
	}
	for _, id := range []int{1, 2, 49, 50} {
		isEntry(t, entry(1, id, 100))
	}
	for _, id := range []int{math.MinInt, -1, 0, 51, 52, 1000000, math.MaxInt} {
		noEntry(t, entry(1, id, 100))
	}
	for _, at := range []int{0, 1, 499, 500} {
		isEntry(t, entry(1, 5, at))
	}
	for _, at := range []int{math.MinInt, -1, 501, 502, 1000001, math.MaxInt} {
		noEntry(t, entry(1, 5, at))
	}
	noEntry(t, impl.Entry{})
	noPipe(t, impl.Pipe{Next: 1, Log: []impl.Entry{entry(1, 1, 0)}})
	isPipe(t, impl.Pipe{Next: 2, Log: []impl.Entry{entry(1, 1, 0)}})
	noPipe(t, impl.Pipe{Next: 2, Log: []impl.Entry{entry(1, 2, 0)}})
}

// TestEntriesInOrder: no entry is earlier than the one ahead of it. Their Kinds
// and Ids need no order.
func TestEntriesInOrder(t *testing.T) {
	for _, times := range [][]int{{0}, {0, 0}, {0, 1}, {500, 500}, {3, 3, 3, 4}, {0, 100, 500}} {
		isLaden(t, func(p *impl.Pipe) {
			p.Log = nil
			for i, at := range times {
				p.Log = append(p.Log, entry(7-i, 50-i, at))
			}
		})
	}
	for _, times := range [][]int{{1, 0}, {500, 499}, {0, 1, 0}, {3, 3, 2}, {3, 2, 3}, {5, 3, 4}, {0, -1}, {0, 501}} {
		noLaden(t, func(p *impl.Pipe) {
			p.Log = nil
			for _, at := range times {
				p.Log = append(p.Log, entry(1, 1, at))
			}
		})
	}
}

func TestLogLengths(t *testing.T) {
	for _, n := range []int{0, 1, 4071, 4072, 4095, 4096} {
		isLaden(t, func(p *impl.Pipe) { p.Log = slices.Repeat([]impl.Entry{entry(1, 1, 500)}, n) })
	}
	for _, n := range []int{4097, 4098, 1 << 16} {
		noLaden(t, func(p *impl.Pipe) { p.Log = slices.Repeat([]impl.Entry{entry(1, 1, 500)}, n) })
	}
	noLaden(t, func(p *impl.Pipe) {
		p.Log = slices.Repeat([]impl.Entry{entry(1, 1, 500)}, 4096)
		p.Log[4095].Kind = 0
	})
}

// isWire and noWire check a change of a wire in each place.
func isWire(t *testing.T, change func(*impl.Wire)) {
	t.Helper()
	for i := range laden().Wires {
		isLaden(t, func(p *impl.Pipe) { change(&p.Wires[i]) })
	}
}

func noWire(t *testing.T, change func(*impl.Wire)) {
	t.Helper()
	for i := range laden().Wires {
		noLaden(t, func(p *impl.Pipe) { change(&p.Wires[i]) })
	}
}

func TestWireNumbers(t *testing.T) {
	for _, at := range []int{0, 1, 499, 500} {
		isWire(t, func(w *impl.Wire) { w.At = at })
	}
	for _, at := range []int{math.MinInt, -1, 501, 502, 1000001, math.MaxInt} {
		noWire(t, func(w *impl.Wire) { w.At = at })
	}
	for _, status := range []int{100, 101, 199, 200, 299, 300, 410, 598, 599} {
		isWire(t, func(w *impl.Wire) { w.Status = status })
	}
	for _, status := range []int{math.MinInt, -200, -1, 0, 99, 600, 601, 1<<32 + 200, math.MaxInt} {
		noWire(t, func(w *impl.Wire) { w.Status = status })
	}
	isWire(t, func(w *impl.Wire) { w.Lost = !w.Lost })
	noWire(t, func(w *impl.Wire) { *w = impl.Wire{} })
}

func TestWireTexts(t *testing.T) {
	for _, name := range []string{"a", "_", "unknown", "a_2345678901"} {
		isWire(t, func(w *impl.Wire) { w.Group = name })
	}
	for _, name := range []string{"", "1", "a b", "a_23456789012", "\xff", strings.Repeat("a", impl.MaxText+1)} {
		noWire(t, func(w *impl.Wire) { w.Group = name })
	}
	// A Url and a Body may be any bytes.
	for _, n := range []int{0, 1, 99, 100} {
		isWire(t, func(w *impl.Wire) { w.Url = strings.Repeat("\xff", n) })
	}
	for _, n := range []int{101, 102, 1 << 20} {
		noWire(t, func(w *impl.Wire) { w.Url = strings.Repeat("a", n) })
	}
	for _, n := range []int{0, 1, 65535, 65536} {
		isWire(t, func(w *impl.Wire) { w.Body = strings.Repeat("\xff", n) })
	}
	for _, n := range []int{65537, 65538, 1 << 20} {
		noWire(t, func(w *impl.Wire) { w.Body = strings.Repeat("a", n) })
	}
}

func TestWireIds(t *testing.T) {
	for _, ids := range [][]int{{1}, {50}, {1, 2}, {1, 50}, {49, 50}, {1, 2, 3}, {48, 49, 50}, {1, 25, 50}} {
		isWire(t, func(w *impl.Wire) { w.Ids = ids })
	}
	for _, ids := range [][]int{
		nil, {}, {1, 2, 3, 4}, make([]int, 4096), make([]int, 4097),
		{0}, {-1}, {math.MinInt}, {51}, {52}, {1000001}, {math.MaxInt}, {0, 1}, {0, 1, 2}, {-1, 0, 1}, {1, 51}, {1, 2, 51}, {1, 51, 52}, {50, 51},
		{1, 1}, {2, 1}, {1, 2, 2}, {1, 1, 2}, {1, 3, 2}, {2, 1, 3}, {3, 2, 1}, {3, 1, 2}, {2, 3, 1}, {1, math.MinInt}, {1, 2, math.MinInt},
	} {
		noWire(t, func(w *impl.Wire) { w.Ids = ids })
	}
}

func TestWireCounts(t *testing.T) {
	for _, n := range []int{0, 1, 2, 100, 4095, 4096} {
		isLaden(t, func(p *impl.Pipe) { p.Wires = slices.Repeat([]impl.Wire{wire(500, 1)}, n) })
	}
	for _, n := range []int{4097, 4098, 1 << 16} {
		noLaden(t, func(p *impl.Pipe) { p.Wires = slices.Repeat([]impl.Wire{wire(500, 1)}, n) })
	}
	noLaden(t, func(p *impl.Pipe) {
		p.Wires = slices.Repeat([]impl.Wire{wire(500, 1)}, 4096)
		p.Wires[4095].Status = 0
	})
	// Their times and Ids need no order.
	isLaden(t, func(p *impl.Pipe) { p.Wires = []impl.Wire{wire(9, 5), wire(8, 4), wire(9, 5), wire(0, 1)} })
}

// smallChanges are changes of laden after each of which it is another valid
// pipeline.
var smallChanges = map[string]func(*impl.Pipe){
	"Now":       func(p *impl.Pipe) { p.Now++ },
	"Next":      func(p *impl.Pipe) { p.Next++ },
	"ReportTo":  func(p *impl.Pipe) { p.Policy.ReportTo, p.Policy.Rules[0].Words[0] = "cs", "cs" },
	"first Uri": func(p *impl.Pipe) { p.Policy.Uris[0] += "x"; p.Policy.Rules[1].Words[0] += "x" },
	"fewer Uris": func(p *impl.Pipe) {
		p.Policy.Uris, p.Policy.Rules[1].Words = p.Policy.Uris[:1], p.Policy.Rules[1].Words[:1]
	},
	"a rule's Name":     func(p *impl.Pipe) { p.Policy.Rules[2].Name = "b" },
	"a rule's Words":    func(p *impl.Pipe) { p.Policy.Rules[2].Words = []string{"w"} },
	"a second word":     func(p *impl.Pipe) { p.Policy.Rules[0].Words[1] = "y" },
	"more rules":        func(p *impl.Pipe) { p.Policy.Rules = append(p.Policy.Rules, rule("b")) },
	"fewer rules":       func(p *impl.Pipe) { p.Policy.Rules = p.Policy.Rules[:2] },
	"order of rules":    func(p *impl.Pipe) { list := p.Policy.Rules; list[0], list[2] = list[2], list[0] },
	"no policy":         func(p *impl.Pipe) { p.Policy = impl.Policy{} },
	"fewer channels":    func(p *impl.Pipe) { p.Channels = p.Channels[:2] },
	"more channels":     func(p *impl.Pipe) { p.Channels = append(p.Channels, channel("more", 1, sized(0, 0))) },
	"order of channels": func(p *impl.Pipe) { p.Channels[0], p.Channels[1] = p.Channels[1], p.Channels[0] },
	"a channel's Name":  func(p *impl.Pipe) { p.Channels[2].Group.Name = "Uri" },
	"a channel's Age":   func(p *impl.Pipe) { p.Channels[2].Group.Age++ },
	"a Url":             func(p *impl.Pipe) { c := &p.Channels[2]; c.Group.Targets[0].Url += "x"; c.Peers[0].Target.Url += "x" },
	"a Priority":        func(p *impl.Pipe) { c := &p.Channels[2]; c.Group.Targets[0].Priority++; c.Peers[0].Target.Priority++ },
	"a Weight":          func(p *impl.Pipe) { c := &p.Channels[2]; c.Group.Targets[0].Weight--; c.Peers[0].Target.Weight-- },
	"fewer targets":     func(p *impl.Pipe) { c := &p.Channels[1]; c.Group.Targets, c.Peers = c.Group.Targets[:3], c.Peers[:3] },
	"Fails":             func(p *impl.Pipe) { p.Channels[1].Peers[3].Fails++ },
	"RetryAt":           func(p *impl.Pipe) { p.Channels[1].Peers[3].RetryAt++ },
	"Gone":              func(p *impl.Pipe) { p.Channels[1].Peers[3].Gone = true },
	"an item's Id":      func(p *impl.Pipe) { p.Channels[0].Queue.Items[4].Id-- },
	"an item's Born":    func(p *impl.Pipe) { p.Channels[0].Queue.Items[4].Born-- },
	"an item's Tries":   func(p *impl.Pipe) { p.Channels[0].Queue.Items[4].Tries++ },
	"an item's Body":    func(p *impl.Pipe) { p.Channels[0].Queue.Items[4].Body += "x" },
	"fewer items":       func(p *impl.Pipe) { q := &p.Channels[0].Queue; q.Items = q.Items[:4] },
	"a recent body":     func(p *impl.Pipe) { p.Channels[0].Queue.Recent[5] += "x" },
	"fewer recent":      func(p *impl.Pipe) { q := &p.Channels[0].Queue; q.Recent = q.Recent[:5] },
	"order of recent":   func(p *impl.Pipe) { list := p.Channels[0].Queue.Recent; list[0], list[5] = list[5], list[0] },
	"an entry's Kind":   func(p *impl.Pipe) { p.Log[3].Kind-- },
	"an entry's Id":     func(p *impl.Pipe) { p.Log[3].Id-- },
	"an entry's At":     func(p *impl.Pipe) { p.Log[3].At-- },
	"fewer entries":     func(p *impl.Pipe) { p.Log = p.Log[:3] },
	"more entries":      func(p *impl.Pipe) { p.Log = append(p.Log, p.Log[3]) },
	"order of entries":  func(p *impl.Pipe) { p.Log[0], p.Log[1] = p.Log[1], p.Log[0] },
	"a wire's At":       func(p *impl.Pipe) { p.Wires[1].At++ },
	"a wire's Status":   func(p *impl.Pipe) { p.Wires[1].Status++ },
	"a wire's Group":    func(p *impl.Pipe) { p.Wires[1].Group += "x" },
	"a wire's Url":      func(p *impl.Pipe) { p.Wires[1].Url += "x" },
	"a wire's Id":       func(p *impl.Pipe) { p.Wires[1].Ids[0]++ },
	"fewer Ids":         func(p *impl.Pipe) { p.Wires[0].Ids = p.Wires[0].Ids[:2] },
	"a wire's Body":     func(p *impl.Pipe) { p.Wires[1].Body += "x" },
	"a wire's Lost":     func(p *impl.Pipe) { p.Wires[1].Lost = false },
	"fewer wires":       func(p *impl.Pipe) { p.Wires = p.Wires[:1] },
	"more wires":        func(p *impl.Pipe) { p.Wires = append(p.Wires, p.Wires[0]) },
	"order of wires":    func(p *impl.Pipe) { p.Wires[0], p.Wires[1] = p.Wires[1], p.Wires[0] },
}

// TestSamePipe: pipelines that differ anywhere are different, and those that
// differ nowhere are equal, wherever they are stored.
func TestSamePipe(t *testing.T) {
	list := map[string]impl.Pipe{"none": laden(), "new": impl.NewPipe()}
	for name, change := range smallChanges {
		list[name] = after(laden(), change)
		isPipe(t, list[name])
	}
	for x, a := range list {
		for y, b := range list {
			if impl.SamePipe(a, b) != (x == y) || impl.SamePipe(a, copied(b)) != (x == y) {
				t.Errorf("SamePipe after the changes %q and %q is %v", x, y, x != y)
			}
		}
	}
}

// TestSamePipeOfInvalid: what is invalid because of one field equals nothing,
// not even itself.
func TestSamePipeOfInvalid(t *testing.T) {
	for name, change := range map[string]func(*impl.Pipe){
		"policy":  func(p *impl.Pipe) { p.Policy.ReportTo = "x" },
		"uris":    func(p *impl.Pipe) { p.Policy.Uris = p.Policy.Uris[:1] },
		"targets": func(p *impl.Pipe) { p.Channels[0].Group.Targets[0].Weight-- },
		"peers":   func(p *impl.Pipe) { p.Channels[0].Peers[0].Target.Weight-- },
		"now":     func(p *impl.Pipe) { p.Now-- },
		"next":    func(p *impl.Pipe) { p.Next-- },
	} {
		a, b := after(laden(), change), after(laden(), change)
		if impl.SamePipe(a, b) || impl.SamePipe(a, laden()) || impl.SamePipe(laden(), a) {
			t.Errorf("SamePipe after the change of %s is true", name)
		}
	}
}

// TestEmptySlicesInPipes: an empty slice and nil are the same.
func TestEmptySlicesInPipes(t *testing.T) {
	bare := impl.Pipe{Next: 1, Channels: []impl.Channel{{Group: endpoint("a", "https://a/"), Peers: []impl.Peer{ranked("a", 1, 1)}}}, Policy: plain(rule("x"))}
	empty := after(bare, func(p *impl.Pipe) {
		p.Channels[0].Queue = impl.Queue{Items: []impl.Report{}, Recent: []string{}}
		p.Policy.Uris, p.Policy.Rules[0].Words = []string{}, []string{}
		p.Log, p.Wires = []impl.Entry{}, []impl.Wire{}
	})
	isPipe(t, bare)
	isPipe(t, empty)
	if !impl.SamePipe(bare, empty) || !impl.SamePipe(empty, bare) {
		t.Error("SamePipe: an empty slice and nil are different")
	}
	none := impl.Pipe{Next: 1, Channels: []impl.Channel{}, Policy: impl.Policy{Uris: []string{}, Rules: []impl.Rule{}}, Log: []impl.Entry{}, Wires: []impl.Wire{}}
	if !impl.SamePipe(impl.NewPipe(), none) || !impl.SamePipe(none, impl.NewPipe()) {
		t.Error("SamePipe: an empty slice and nil are different")
	}
}

func isEvent(t *testing.T, e impl.Event) {
	t.Helper()
	if !impl.EventOK(e) {
		t.Errorf("EventOK: %s is valid", briefEvent(e))
	}
	if x, _, code := impl.DoEvent(laden(), e); code != impl.OK || !impl.PipeOK(x) {
		t.Errorf("DoEvent: %s is valid: %d, %s", briefEvent(e), code, briefPipe(x))
	}
	if _, outcomes, code := impl.RunEvents([]impl.Event{e, e}); code != impl.OK || len(outcomes) != 2 {
		t.Errorf("RunEvents: %s is valid: %v, %d", briefEvent(e), outcomes, code)
	}
}

func noEvent(t *testing.T, e impl.Event) {
	t.Helper()
	if impl.EventOK(e) {
		t.Errorf("EventOK: %s is invalid", briefEvent(e))
	}
	refusesEvent(t, laden(), e)
	refusesEvent(t, impl.NewPipe(), e)
	refusesEvent(t, impl.Pipe{}, e)
	refusesRun(t, impl.ErrBad, e)
}

func refusesRun(t *testing.T, want int, list ...impl.Event) {
	t.Helper()
	if x, outcomes, code := impl.RunEvents(list); !isNoPipe(x) || len(outcomes) != 0 || code != want {
		t.Errorf("RunEvents of %d events: got %s, %v, %d, not the code %d", len(list), briefPipe(x), outcomes, code, want)
	}
}

// eventFields set one field each.
var eventFields = map[string]func(*impl.Event){
	"Draw":       func(e *impl.Event) { e.Draw = 1 },
	"Status":     func(e *impl.Event) { e.Status = 200 },
	"Ticks":      func(e *impl.Event) { e.Ticks = 1 },
	"Text":       func(e *impl.Event) { e.Text = "a" },
	"Name":       func(e *impl.Event) { e.Name = "a" },
	"Lost":       func(e *impl.Event) { e.Lost = true },
	"Document":   func(e *impl.Event) { e.Violation.Document = "https://a/" },
	"Referrer":   func(e *impl.Event) { e.Violation.Referrer = "https://a/" },
	"Blocked":    func(e *impl.Event) { e.Violation.Blocked = "eval" },
	"Source":     func(e *impl.Event) { e.Violation.Source = "https://a/" },
	"Directive":  func(e *impl.Event) { e.Violation.Directive = "a" },
	"Sample":     func(e *impl.Event) { e.Violation.Sample = "a" },
	"Line":       func(e *impl.Event) { e.Violation.Line = 1 },
	"Column":     func(e *impl.Event) { e.Violation.Column = 1 },
	"Redirected": func(e *impl.Event) { e.Violation.Redirected = true },
}

// TestFieldsOfEvents sets each field of an event of each Kind. What the Kind
// does not list must be 0 or empty.
func TestFieldsOfEvents(t *testing.T) {
	violation := []string{"Document", "Referrer", "Blocked", "Source", "Directive", "Sample", "Line", "Column", "Redirected"}
	for _, v := range []struct {
		event  impl.Event
		fields []string
	}{
		{endpointsEvent(""), []string{"Text"}},
		{reportToEvent(""), []string{"Text"}},
		{policyEvent(""), []string{"Text"}},
		{violationEvent(impl.Violation{Directive: "b"}), violation},
		{tickEvent(5), []string{"Ticks"}},
		{sendEvent("b", 0, 100), []string{"Name", "Draw", "Status", "Lost"}},
	} {
		isEvent(t, v.event)
		for name, set := range eventFields {
			e := v.event
			set(&e)
			if slices.Contains(v.fields, name) {
				isEvent(t, e)
			} else {
				noEvent(t, e)
			}
		}
	}
}

func TestKindsOfEvents(t *testing.T) {
	for _, kind := range []int{math.MinInt, -1, 0, 7, 8, 1<<32 + 1, math.MaxInt} {
		noEvent(t, impl.Event{Kind: kind})
		for _, e := range eventsOfEachKind() {
			e.Kind = kind
			noEvent(t, e)
		}
	}
	for kind := 1; kind <= 3; kind++ {
		isEvent(t, impl.Event{Kind: kind})
	}
	for kind := 4; kind <= 6; kind++ {
		noEvent(t, impl.Event{Kind: kind})
	}
}

func TestTextsOfEvents(t *testing.T) {
	for kind := 1; kind <= 3; kind++ {
		for _, n := range []int{0, 1, 4095, 4096} {
			isEvent(t, impl.Event{Kind: kind, Text: strings.Repeat("a", n)})
			isEvent(t, impl.Event{Kind: kind, Text: strings.Repeat("\xff", n)})
			isEvent(t, impl.Event{Kind: kind, Text: strings.Repeat("\x00", n)})
		}
		for _, n := range []int{4097, 4098, impl.MaxText, impl.MaxText + 1, 1 << 20} {
			noEvent(t, impl.Event{Kind: kind, Text: strings.Repeat("a", n)})
			noEvent(t, impl.Event{Kind: kind, Text: strings.Repeat(" ", n)})
		}
	}
}

func TestViolationsOfEvents(t *testing.T) {
	for _, v := range []impl.Violation{
		{Directive: "a"}, ordinary(),
		like(func(v *impl.Violation) { v.Document = longUrl(100) }),
		like(func(v *impl.Violation) { v.Sample = strings.Repeat("\xff", 200) }),
		like(func(v *impl.Violation) { v.Line, v.Column = 9999, 0 }),
	} {
		isEvent(t, violationEvent(v))
	}
	for _, v := range []impl.Violation{
		{}, like(func(v *impl.Violation) { v.Directive = "" }),
		like(func(v *impl.Violation) { v.Directive = "A" }),
		like(func(v *impl.Violation) { v.Document = longUrl(101) }),
		like(func(v *impl.Violation) { v.Referrer = longUrl(101) }),
		like(func(v *impl.Violation) { v.Blocked = longUrl(101) }),
		like(func(v *impl.Violation) { v.Source = longUrl(101) }),
		like(func(v *impl.Violation) { v.Sample = strings.Repeat("a", 201) }),
		like(func(v *impl.Violation) { v.Line = 10000 }),
		like(func(v *impl.Violation) { v.Line = -1 }),
		like(func(v *impl.Violation) { v.Column = 10000 }),
		like(func(v *impl.Violation) { v.Column = -1 }),
	} {
		noEvent(t, violationEvent(v))
	}
}

func TestNumbersOfEvents(t *testing.T) {
	for _, n := range []int{1, 2, 999, 1000} {
		isEvent(t, tickEvent(n))
	}
	for _, n := range []int{math.MinInt, -1000, -1, 0, 1001, 1<<32 + 1, math.MaxInt} {
		noEvent(t, tickEvent(n))
	}
	for _, n := range []int{0, 1, 999999, 1000000} {
		isEvent(t, sendEvent("csp", n, 200))
		isEvent(t, lost(sendEvent("nowhere", n, 200)))
	}
	for _, n := range []int{math.MinInt, -1, 1000001, math.MaxInt} {
		noEvent(t, sendEvent("csp", n, 200))
	}
	for _, n := range []int{100, 101, 199, 200, 299, 300, 410, 598, 599} {
		isEvent(t, sendEvent("csp", 0, n))
		isEvent(t, lost(sendEvent("csp", 0, n)))
	}
	for _, n := range []int{math.MinInt, -200, 0, 99, 600, 1<<32 + 200, math.MaxInt} {
		noEvent(t, sendEvent("csp", 0, n))
	}
	for _, name := range []string{"a", "_", "a_2345678901", "CSP"} {
		isEvent(t, sendEvent(name, 0, 200))
	}
	for _, name := range []string{"", "1", "a b", "a_23456789012", "\xff", strings.Repeat("a", impl.MaxText+1)} {
		noEvent(t, sendEvent(name, 0, 200))
	}
}
