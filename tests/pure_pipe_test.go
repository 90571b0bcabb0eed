package tests

import (
	"fmt"
	"maps"
	"math"
	"math/rand"
	"runtime"
	"slices"
	"strings"
	"testing"

	"loop.example/g00779/impl"
)

// apart returns a copy of p that shares nothing with it, not even the bytes of
// a text, with more behind its slices in the same memory.
func apart(p impl.Pipe) impl.Pipe {
	p.Policy = spacious(p.Policy)
	p.Log = append(slices.Clone(p.Log), entry(1, 1, 0), impl.Entry{})[:len(p.Log)]
	p.Channels = append(slices.Clone(p.Channels), channel("spare", 1, sized(1, 1)), impl.Channel{})[:len(p.Channels)]
	p.Wires = append(slices.Clone(p.Wires), wire(0, 1), impl.Wire{})[:len(p.Wires)]
	for i, c := range p.Channels {
		c.Group.Targets = append(slices.Clone(c.Group.Targets), target("https://spare/", 1, 1))[:len(c.Group.Targets)]
		c.Peers = append(slices.Clone(c.Peers), ranked("spare", 1, 1))[:len(c.Peers)]
		c.Queue.Items = append(slices.Clone(c.Queue.Items), report(2000, 2000, 0, "spare"))[:len(c.Queue.Items)]
		c.Queue.Recent = append(slices.Clone(c.Queue.Recent), "spare")[:len(c.Queue.Recent)]
		p.Channels[i] = c
	}
	for i, w := range p.Wires {
		p.Wires[i].Ids = append(slices.Clone(w.Ids), 1000, 0)[:len(w.Ids)]
	}
	cloneTexts(pipeTexts(&p))
	return p
}

func apartEvent(e impl.Event) impl.Event {
	cloneTexts(eventTexts(&e))
	return e
}

func cloneTexts(texts []*string) {
	for _, text := range texts {
		*text = strings.Clone(*text)
	}
}

func pipeTexts(p *impl.Pipe) []*string {
	list := []*string{&p.Policy.ReportTo}
	list = append(list, cells(p.Policy.Uris)...)
	for i := range p.Policy.Rules {
		list = append(list, &p.Policy.Rules[i].Name)
		list = append(list, cells(p.Policy.Rules[i].Words)...)
	}
	for i := range p.Channels {
		c := &p.Channels[i]
		list = append(list, &c.Group.Name)
		for k := range c.Group.Targets {
			list = append(list, &c.Group.Targets[k].Url)
		}
		for k := range c.Peers {
			list = append(list, &c.Peers[k].Target.Url)
		}
		for k := range c.Queue.Items {
			list = append(list, &c.Queue.Items[k].Body)
		}
		list = append(list, cells(c.Queue.Recent)...)
	}
	for i := range p.Wires {
		w := &p.Wires[i]
		list = append(list, &w.Group, &w.Url, &w.Body)
	}
	return list
}

func eventTexts(e *impl.Event) []*string {
	v := &e.Violation
	return []*string{&e.Text, &e.Name, &v.Document, &v.Referrer, &v.Blocked, &v.Source, &v.Directive, &v.Sample}
}

// cells returns the places of all elements of a list.
func cells[T any](list []T) []*T {
	var places []*T
	for i := range list {
		places = append(places, &list[i])
	}
	return places
}

// wholePipe returns a copy of p in which unused capacity is used.
func wholePipe(p impl.Pipe) impl.Pipe {
	p.Policy = wholePolicy(p.Policy)
	p.Channels, p.Log, p.Wires = slices.Clone(p.Channels[:cap(p.Channels)]), slices.Clone(p.Log[:cap(p.Log)]), slices.Clone(p.Wires[:cap(p.Wires)])
	for i, c := range p.Channels {
		c.Group.Targets, c.Peers = slices.Clone(c.Group.Targets[:cap(c.Group.Targets)]), slices.Clone(c.Peers[:cap(c.Peers)])
		c.Queue = wholeQueue(c.Queue)
		p.Channels[i] = c
	}
	for i, w := range p.Wires {
		p.Wires[i].Ids = slices.Clone(w.Ids[:cap(w.Ids)])
	}
	return p
}

// pipePlaces collects the places of everything in the slices of p, their unused
// capacity too.
func pipePlaces(p impl.Pipe) []any {
	list := policyPlaces(p.Policy)
	list = append(list, allPlaces(p.Log)...)
	list = append(list, allPlaces(p.Channels)...)
	list = append(list, allPlaces(p.Wires)...)
	for _, c := range p.Channels[:cap(p.Channels)] {
		list = append(list, allPlaces(c.Group.Targets)...)
		list = append(list, allPlaces(c.Peers)...)
		list = append(list, allPlaces(c.Queue.Items)...)
		list = append(list, allPlaces(c.Queue.Recent)...)
	}
	for _, w := range p.Wires[:cap(p.Wires)] {
		list = append(list, allPlaces(w.Ids)...)
	}
	return list
}

func allPlaces[T any](list []T) []any {
	var places []any
	for _, place := range cells(list[:cap(list)]) {
		places = append(places, place)
	}
	return places
}

// seeTexts adds the places of the bytes of texts to those that are seen.
func seeTexts(texts []*string, seen map[any]bool) {
	for _, text := range texts {
		for _, place := range textPlaces(*text) {
			seen[place] = true
		}
	}
}

// hardPipes are pipelines that are valid, invalid, or enormous; behind their
// slices there is more in the same memory.
func hardPipes() []impl.Pipe {
	r := rand.New(rand.NewSource(15))
	long := strings.Repeat("a", 1<<20)
	pipes := []impl.Pipe{
		{}, impl.NewPipe(), laden(), waiting(5), withChannels(5), limited(4071, 1), limited(4096, 0), limited(0, 4095), limited(4096, 4096),
		{Next: math.MaxInt, Now: math.MaxInt}, {Next: math.MinInt, Now: math.MinInt}, {Next: 1, Channels: make([]impl.Channel, 1<<16)},
		{Next: 1, Log: make([]impl.Entry, 1<<16)}, {Next: 1, Wires: make([]impl.Wire, 1<<16)},
		after(laden(), func(p *impl.Pipe) { p.Channels[0].Peers = make([]impl.Peer, 1<<16) }),
		after(laden(), func(p *impl.Pipe) { p.Channels[0].Group.Targets = make([]impl.Target, 1<<16) }),
		after(laden(), func(p *impl.Pipe) { p.Channels[0].Queue.Items = make([]impl.Report, 1<<16) }),
		after(laden(), func(p *impl.Pipe) { p.Channels[0].Group.Name = long }),
		after(laden(), func(p *impl.Pipe) { p.Wires[0].Ids = make([]int, 1<<16) }),
		after(laden(), func(p *impl.Pipe) { p.Wires[0].Body = long }),
		after(laden(), func(p *impl.Pipe) { p.Wires[0].Url = long }),
		after(laden(), func(p *impl.Pipe) { p.Log[0].Id = math.MinInt }),
		after(laden(), func(p *impl.Pipe) { p.Policy = plain(rule("a", long)) }),
	}
	for _, name := range slices.Sorted(maps.Keys(smallChanges)) {
		pipes = append(pipes, after(laden(), smallChanges[name]))
	}
	pipes = append(pipes, someChanged(r, 60, randomPipe, changedPipe)...)
	for i, p := range pipes {
		pipes[i] = apart(p)
	}
	return pipes
}

// hardEvents are events that are valid, invalid, or enormous.
func hardEvents() []impl.Event {
	r := rand.New(rand.NewSource(16))
	long := strings.Repeat("a", 1<<20)
	list := append(eventsOfAllOutcomes(), impl.Event{}, endpointsEvent(`csp="https://t1.example/", uri="https://new/"`), policyEvent("report-uri https://t0.example/ https://u/; report-to csp; a b"), tickEvent(1000), tickEvent(100))
	for _, text := range []string{long, strings.Repeat("[", 4096), strings.Repeat(";", 4096), strings.Repeat(",", 4096), strings.Repeat("a ", 2048)} {
		list = append(list, endpointsEvent(text), reportToEvent(text), policyEvent(text))
	}
	list = append(list, sendEvent(long, 0, 200), sendEvent("csp", math.MinInt, math.MinInt), sendEvent("csp", math.MaxInt, math.MaxInt), tickEvent(math.MinInt), tickEvent(math.MaxInt), violationEvent(impl.Violation{Document: long, Directive: long}))
	list = append(list, someChanged(r, 20, randomEvent, changedEvent)...)
	return list
}

// hardRuns are lists of events, with more behind them in the same memory.
func hardRuns() [][]impl.Event {
	r := rand.New(rand.NewSource(17))
	events := hardEvents()
	lists := [][]impl.Event{nil, {}, make([]impl.Event, 60), make([]impl.Event, 61), make([]impl.Event, 1<<16)}
	for i := range events {
		lists = append(lists, events[i:i+1])
	}
	for i := range 60 {
		list := eventsOf(r, 2+r.Intn(59), i%2 == 0)
		if i%5 == 0 {
			list[r.Intn(len(list))] = events[r.Intn(len(events))]
		}
		lists = append(lists, append(list, tickEvent(1), impl.Event{})[:len(list)])
	}
	return lists
}

// pipeCalls returns a call of every function of chapter 9 for every hard
// argument.
func pipeCalls() []func() string {
	var list []func() string
	events, pipes := hardEvents(), hardPipes()
	for i, p := range pipes {
		other := pipes[(i*7+1)%len(pipes)]
		list = append(list,
			func() string { return fmt.Sprint(impl.PipeOK(p)) },
			func() string { return fmt.Sprint(impl.SamePipe(p, p), impl.SamePipe(p, other)) },
		)
		for k, e := range events {
			// Of enormous pipelines, a few events are enough.
			if len(p.Log)+len(p.Wires) > 1000 && k%9 > 0 {
				continue
			}
			list = append(list, func() string {
				x, outcome, code := impl.DoEvent(p, e)
				return fmt.Sprint(x, outcome, code)
			})
		}
	}
	for _, e := range events {
		list = append(list, func() string { return fmt.Sprint(impl.EventOK(e)) })
	}
	for _, events := range hardRuns() {
		list = append(list, func() string {
			p, outcomes, code := impl.RunEvents(events)
			return fmt.Sprint(p, outcomes, code)
		})
	}
	return append(list, func() string { return fmt.Sprint(impl.NewPipe()) })
}

// TestPipesUnchanged: a pipeline and a list of events are the same after every
// call, and so is what they do not use.
func TestPipesUnchanged(t *testing.T) {
	events := hardEvents()
	listed := slices.Clone(events)
	for _, p := range hardPipes() {
		before := wholePipe(p)
		impl.PipeOK(p)
		impl.SamePipe(p, p)
		impl.SamePipe(p, laden())
		for _, e := range events {
			impl.EventOK(e)
			impl.DoEvent(p, e)
		}
		if !equalPipes(wholePipe(p), before) {
			t.Errorf("%s was changed", briefPipe(before))
		}
	}
	if !slices.Equal(events, listed) {
		t.Error("an event was changed")
	}
	for _, list := range hardRuns() {
		before := slices.Clone(list[:cap(list)])
		impl.RunEvents(list)
		if !slices.Equal(list[:cap(list)], before) {
			t.Errorf("a list of %d events was changed", len(list))
		}
	}
}

// TestPipesAreNew: no slice of a result shares memory with an argument, with
// another result, or with one of the same result; and no text of it shares any
// with an argument.
func TestPipesAreNew(t *testing.T) {
	found := 0
	events := hardEvents()
	texts := map[any]bool{}
	for i, e := range events {
		events[i] = apartEvent(e)
		seeTexts(eventTexts(&events[i]), texts)
	}
	for _, p := range hardPipes() {
		if !impl.PipeOK(p) || len(p.Wires) > 1000 {
			continue
		}
		seen := map[any]bool{}
		for _, place := range pipePlaces(p) {
			seen[place] = true
		}
		seeTexts(pipeTexts(&p), texts)
		for _, e := range events {
			for range 2 {
				x, _, _ := impl.DoEvent(p, e)
				found += checkNew(t, x, seen, texts)
			}
			if t.Failed() {
				t.Fatalf("DoEvent(%s, %s)", briefPipe(p), briefEvent(e))
			}
		}
	}
	if found < 10000 {
		t.Errorf("only %d places", found)
	}
}

// checkNew adds the places of the slices of x to those that are seen, and
// returns their number.
func checkNew(t *testing.T, x impl.Pipe, seen, texts map[any]bool) int {
	t.Helper()
	list := pipePlaces(x)
	for _, place := range list {
		if seen[place] {
			t.Errorf("slices share memory: %s", briefPipe(x))
		}
		seen[place] = true
	}
	for _, text := range pipeTexts(&x) {
		for _, place := range textPlaces(*text) {
			if texts[place] {
				t.Errorf("%q shares memory with an argument: %s", *text, briefPipe(x))
			}
		}
	}
	return len(list)
}

func TestRunsAreNew(t *testing.T) {
	found := 0
	for _, list := range hardRuns() {
		texts, seen := map[any]bool{}, map[any]bool{}
		for i, e := range list {
			list[i] = apartEvent(e)
			seeTexts(eventTexts(&list[i]), texts)
		}
		for range 2 {
			x, outcomes, _ := impl.RunEvents(list)
			found += checkNew(t, x, seen, texts)
			for _, place := range idPlaces(outcomes) {
				if seen[place] {
					t.Error("outcomes share memory")
				}
				seen[place] = true
			}
		}
		a, b := impl.NewPipe(), impl.NewPipe()
		checkNew(t, a, seen, texts)
		checkNew(t, b, seen, texts)
		if t.Failed() {
			return
		}
	}
	if found < 2000 {
		t.Errorf("only %d places", found)
	}
}

// changePipe changes everything in the slices of p, their unused capacity too.
func changePipe(p impl.Pipe) {
	for _, c := range p.Channels[:cap(p.Channels)] {
		for i := range c.Group.Targets[:cap(c.Group.Targets)] {
			c.Group.Targets[:cap(c.Group.Targets)][i] = target("changed", -1, -1)
		}
		changePeers(c.Peers)
		changeQueue(c.Queue)
	}
	for _, w := range p.Wires[:cap(p.Wires)] {
		fill(w.Ids, -1)
	}
	for _, r := range p.Policy.Rules[:cap(p.Policy.Rules)] {
		fill(r.Words, "changed")
	}
	fill(p.Policy.Rules, rule("changed"))
	fill(p.Policy.Uris, "changed")
	fill(p.Channels, impl.Channel{})
	fill(p.Log, impl.Entry{})
	fill(p.Wires, impl.Wire{})
}

func fill[T any](list []T, x T) {
	for i := range list[:cap(list)] {
		list[:cap(list)][i] = x
	}
}

// TestChangesOfPipes: a change of a result is not seen in the argument, nor one
// of the argument in the result.
func TestChangesOfPipes(t *testing.T) {
	r := rand.New(rand.NewSource(18))
	pipes := []impl.Pipe{laden(), waiting(1), waiting(5), withChannels(5), limited(4096, 1), limited(3, 4096)}
	for range 30 {
		pipes = append(pipes, randomPipe(r))
	}
	for _, p := range pipes {
		for _, e := range eventsOfAllOutcomes() {
			argument := apart(p)
			want, _, code := impl.DoEvent(argument, e)
			x, _, _ := impl.DoEvent(argument, e)
			if code == impl.ErrBad {
				t.Fatalf("DoEvent(%s, %s): code %d", briefPipe(p), briefEvent(e), code)
			}
			changePipe(x)
			if !equalPipes(argument, p) {
				t.Fatalf("a change of the result of %s changed %s", briefEvent(e), briefPipe(p))
			}
			x, _, _ = impl.DoEvent(argument, e)
			changePipe(argument)
			if !equalPipes(x, want) {
				t.Fatalf("a change of %s changed the result of %s", briefPipe(p), briefEvent(e))
			}
		}
	}
}

// TestRunsEnd: nothing that a run started goes on after it.
func TestRunsEnd(t *testing.T) {
	before := runtime.NumGoroutine()
	for range 100 {
		for _, n := range []int{0, 1, 60} {
			runs(t, slices.Repeat([]impl.Event{tickEvent(1)}, n), impl.Pipe{Now: n, Next: 1}, make([]int, n)...)
		}
		refusesRun(t, impl.ErrBad, tickEvent(1), tickEvent(0))
	}
	noneGoesOn(t, before)
}

// noneGoesOn waits until there are no more goroutines than before some calls.
func noneGoesOn(t *testing.T, before int) {
	t.Helper()
	for range 10000 {
		if runtime.NumGoroutine() <= before {
			return
		}
		runtime.Gosched()
	}
	t.Errorf("%d goroutines before, %d after", before, runtime.NumGoroutine())
}
