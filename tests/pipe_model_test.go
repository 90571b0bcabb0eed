package tests

import (
	"fmt"
	"math/rand"
	"slices"
	"strings"
	"testing"

	"loop.example/g00779/impl"
)

// The model reads chapter 9 a second time, on top of the models of the chapters
// before. It looks for places before it sets a group, and takes the fields that
// a Kind lists away from an event, so that nothing may be left.

func modelPipeOK(p impl.Pipe) bool {
	if p.Now < 0 || p.Next < 1 || max(p.Now, p.Next) > 1000000 || len(p.Channels) > 5 || max(len(p.Log), len(p.Wires)) > 4096 {
		return false
	}
	names, ids, times := map[string]bool{}, []int{}, []int{0}
	for _, c := range p.Channels {
		if !modelGroupOK(c.Group) || !modelPeersOK(c.Peers) || !modelQueueOK(c.Queue) || len(c.Peers) != len(c.Group.Targets) {
			return false
		}
		for i, x := range c.Peers {
			if x.Target != c.Group.Targets[i] {
				return false
			}
		}
		for _, r := range c.Queue.Items {
			ids = append(ids, r.Id)
			if r.Born > p.Now {
				return false
			}
		}
		names[c.Group.Name] = true
	}
	for _, x := range p.Log {
		if x.Kind <= 0 || x.Kind >= 8 {
			return false
		}
		ids, times = append(ids, x.Id), append(times, x.At)
	}
	for _, w := range p.Wires {
		if !modelWireOK(w) || w.At < 0 || w.At > p.Now {
			return false
		}
		ids = append(ids, w.Ids...)
	}
	slices.Sort(ids)
	known := len(ids) == 0 || ids[0] > 0 && ids[len(ids)-1] < p.Next
	return known && slices.IsSorted(append(times, p.Now)) && len(names) == len(p.Channels) && modelPolicyOK(p.Policy)
}

// modelWireOK tells what is right about a wire alone.
func modelWireOK(w impl.Wire) bool {
	distinct := slices.Compact(slices.Sorted(slices.Values(w.Ids)))
	return slices.Equal(distinct, w.Ids) && len(w.Ids) != 0 && len(w.Ids) <= 3 && w.Status/100 >= 1 && w.Status/100 <= 5 &&
		modelName.MatchString(w.Group) && len(w.Url) <= 100 && len(w.Body) <= 65536
}

func modelEventOK(e impl.Event) bool {
	rest, ok := e, false
	rest.Kind = 0
	switch e.Kind {
	case 1, 2, 3:
		rest.Text, ok = "", len(e.Text) <= 4096
	case 4:
		rest.Violation, ok = impl.Violation{}, modelViolationOK(e.Violation)
	case 5:
		rest.Ticks, ok = 0, e.Ticks > 0 && e.Ticks <= 1000
	case 6:
		rest.Name, rest.Draw, rest.Status, rest.Lost = "", 0, 0, false
		ok = modelName.MatchString(e.Name) && e.Draw >= 0 && e.Draw <= 1000000 && e.Status >= 100 && e.Status < 600
	}
	return ok && rest == impl.Event{}
}

func modelDo(p impl.Pipe, e impl.Event) (impl.Pipe, int, int) {
	if !modelPipeOK(p) || !modelEventOK(e) {
		return impl.Pipe{}, 0, impl.ErrBad
	}
	if len(p.Log)+25 > 4096 || len(p.Wires)+1 > 4096 {
		return p, 0, impl.ErrFull
	}
	x, outcome := copied(p), 0
	switch e.Kind {
	case 1, 2, 3:
		x, outcome = modelHeaderEvent(x, e)
	case 4:
		x, outcome = modelReported(x, modelTold(e.Violation).text())
	case 5:
		x = modelTick(x, e.Ticks)
	case 6:
		x, outcome = modelSent(x, e)
	}
	return x, outcome, impl.OK
}

// modelSets returns what groups a header or a policy sets.
func modelSets(e impl.Event) ([]impl.Group, int) {
	switch e.Kind {
	case 1:
		return modelEndpoints(e.Text)
	case 2:
		g, code := modelReportTo(e.Text)
		return []impl.Group{g}, code
	}
	policy, code := modelPolicy(e.Text)
	g := group("uri", 100)
	for i, url := range policy.Uris {
		g.Targets = append(g.Targets, target(url, i+1, 1))
	}
	if len(g.Targets) == 0 {
		return nil, code
	}
	return []impl.Group{g}, code
}

func modelHeaderEvent(p impl.Pipe, e impl.Event) (impl.Pipe, int) {
	groups, code := modelSets(e)
	if code != impl.OK {
		return p, code
	}
	names := map[string]bool{}
	for _, c := range p.Channels {
		names[c.Group.Name] = true
	}
	for _, g := range groups {
		names[g.Name] = true
	}
	if len(names) > 5 {
		return p, impl.ErrFull
	}
	for _, g := range groups {
		place := modelPlace(p, g.Name)
		if place < 0 {
			place = len(p.Channels)
			p.Channels = append(p.Channels, impl.Channel{})
		}
		list, _ := modelKeep(p.Channels[place].Peers, g)
		p.Channels[place] = impl.Channel{Group: g, Peers: list, Queue: p.Channels[place].Queue}
	}
	if e.Kind == 3 {
		p.Policy, _ = modelPolicy(e.Text)
	}
	return p, 0
}

func modelPlace(p impl.Pipe, name string) int {
	for i, c := range p.Channels {
		if c.Group.Name == name {
			return i
		}
	}
	return -1
}

func modelEntries(p impl.Pipe, kind int, ids []int) impl.Pipe {
	for _, id := range ids {
		p.Log = append(p.Log, impl.Entry{Kind: kind, Id: id, At: p.Now})
	}
	return p
}

func modelReported(p impl.Pipe, body string) (impl.Pipe, int) {
	id := []int{p.Next}
	if p.Next == 1000000 {
		return p, impl.ErrFull
	}
	p.Next++
	name := p.Policy.ReportTo
	if name == "" && len(p.Policy.Uris) > 0 {
		name = "uri"
	}
	place := modelPlace(p, name)
	if place < 0 {
		return modelEntries(p, 7, id), impl.ErrName
	}
	q, taken, evicted, _ := modelOffer(p.Channels[place].Queue, report(id[0], p.Now, 0, body))
	if !taken {
		return modelEntries(p, 6, id), impl.ErrAgain
	}
	p.Channels[place].Queue = q
	p = modelEntries(p, 1, id)
	if evicted > 0 {
		p = modelEntries(p, 3, []int{evicted})
	}
	return p, 0
}

func modelTick(p impl.Pipe, ticks int) impl.Pipe {
	p.Now = min(p.Now+ticks, 1000000)
	for i := range p.Channels {
		q, ids, _ := modelExpire(p.Channels[i].Queue, p.Now, p.Channels[i].Group.Age)
		p.Channels[i].Queue = q
		p = modelEntries(p, 4, ids)
	}
	return p
}

func modelSent(p impl.Pipe, e impl.Event) (impl.Pipe, int) {
	place := modelPlace(p, e.Name)
	if place < 0 {
		return p, impl.ErrName
	}
	c := &p.Channels[place]
	n := min(3, len(c.Queue.Items))
	if n == 0 {
		return p, impl.ErrNone
	}
	k, code := modelChoose(c.Peers, p.Now, e.Draw)
	if code != impl.OK {
		return p, impl.ErrLater
	}
	w := impl.Wire{At: p.Now, Status: e.Status, Lost: e.Lost, Group: e.Name, Url: c.Peers[k].Target.Url}
	for _, r := range c.Queue.Items[:n] {
		w.Ids = append(w.Ids, r.Id)
		w.Body += fmt.Sprintf(`,{"age":%d,"body":%s,"id":%d}`, p.Now-r.Born, r.Body, r.Id)
	}
	w.Body = "[" + strings.TrimPrefix(w.Body, ",") + "]"
	p.Wires = append(p.Wires, w)
	var ids []int
	if e.Status/100 == 2 && !e.Lost {
		c.Queue, ids, _ = modelSettle(c.Queue, n)
		c.Peers, _ = modelWorks(c.Peers, k)
		return modelEntries(p, 2, ids), 0
	}
	c.Queue, ids, _ = modelMissed(c.Queue, n)
	p = modelEntries(p, 5, ids)
	if e.Status != 410 || e.Lost {
		c.Peers, _ = modelFails(c.Peers, k, p.Now)
		return p, impl.ErrLater
	}
	c.Peers, _ = modelGone(c.Peers, k)
	return p, impl.ErrGone
}

// randomGroupName is often that of a channel.
func randomGroupName(r *rand.Rand) string {
	return []string{"csp", "csp", "csp", "uri", "uri", "default", "a", "b", "c", "d"}[r.Intn(10)]
}

func randomEndpointUrl(r *rand.Rand) string {
	if r.Intn(12) == 0 {
		return []string{"data:x", "", "https://x0:80/#f", "HTTPS://X1"}[r.Intn(4)]
	}
	return fmt.Sprintf("https://x%d/", r.Intn(6))
}

func randomEndpointsText(r *rand.Rand) string {
	if r.Intn(6) == 0 {
		return randomEndpoints(r)
	}
	var parts []string
	for range 1 + r.Intn(1+r.Intn(6)) {
		parts = append(parts, randomGroupName(r)+`="`+randomEndpointUrl(r)+`"`)
	}
	return strings.Join(parts, []string{",", ", ", " ,\t"}[r.Intn(3)])
}

func randomReportToText(r *rand.Rand) string {
	if r.Intn(6) == 0 {
		return strings.Join(jsonParts(randomReportTo(r)), "")
	}
	var parts []string
	for range 1 + r.Intn(4) {
		parts = append(parts, fmt.Sprintf(`{"url":%q,"priority":%d,"weight":%d}`, randomEndpointUrl(r), 1+r.Intn(2), 1+r.Intn(3)))
	}
	age := []int{1, 2, 5, 40, 100, 100, 100, r.Intn(102)}[r.Intn(8)]
	return fmt.Sprintf(`{"group":%q,"max_age":%d,"endpoints":[%s]}`, randomGroupName(r), age, strings.Join(parts, ","))
}

func randomPolicyEventText(r *rand.Rand) string {
	if r.Intn(6) == 0 {
		return randomPolicyText(r)
	}
	var parts []string
	if r.Intn(4) > 0 {
		parts = append(parts, "report-to "+randomGroupName(r))
	}
	if r.Intn(3) == 0 {
		uris := "report-uri"
		for range 1 + r.Intn(3) {
			uris += " " + randomEndpointUrl(r)
		}
		parts = append(parts, uris)
	}
	return strings.Join(parts, "; ")
}

// randomEvent returns a valid event.
func randomEvent(r *rand.Rand) impl.Event {
	switch n := r.Intn(100); {
	case n < 8:
		return endpointsEvent(randomEndpointsText(r))
	case n < 16:
		return reportToEvent(randomReportToText(r))
	case n < 23:
		return policyEvent(randomPolicyEventText(r))
	case n < 60:
		if v := randomViolation(r); n == 59 && impl.ViolationOK(v) {
			return violationEvent(v)
		}
		return violationEvent(impl.Violation{Document: "https://d/", Directive: "x", Line: r.Intn(20)})
	case n < 75:
		return tickEvent([]int{1, 1, 2, 3, 5, 8, 20, 60, 1000, 1 + r.Intn(1000)}[r.Intn(10)])
	}
	e := sendEvent(randomGroupName(r), r.Intn(1000001), []int{200, 204, 299, 410, 500, 404, 100 + r.Intn(500)}[r.Intn(7)])
	e.Lost = r.Intn(5) == 0
	return e
}

// busyEvent is most often one by which reports get to csp and from there to its
// endpoints.
func busyEvent(r *rand.Rand) impl.Event {
	switch n := r.Intn(20); {
	case n < 7:
		return violationEvent(impl.Violation{Document: "https://d/", Directive: "x", Line: r.Intn(20)})
	case n < 9:
		return tickEvent(1 + r.Intn(6))
	case n < 19:
		e := sendEvent("csp", r.Intn(1000001), []int{200, 500, 500, 404, 410}[r.Intn(5-r.Intn(2))])
		e.Lost = r.Intn(5) == 0
		return e
	}
	return randomEvent(r)
}

// eventsOf returns n events, among them many that are busy if that is asked
// for.
func eventsOf(r *rand.Rand, n int, busy bool) []impl.Event {
	list := settled()
	for len(list) < n {
		if busy {
			list = append(list, busyEvent(r))
		} else {
			list = append(list, randomEvent(r))
		}
	}
	return list
}

// settled are events after which there are channels and a policy.
func settled() []impl.Event {
	return []impl.Event{
		reportToEvent(`{"group":"csp","max_age":100,"endpoints":[{"url":"https://x0/"},{"url":"https://x1/","weight":2},{"url":"https://x2/","priority":2}]}`),
		policyEvent("report-to csp"),
	}
}

// randomStart returns a new pipeline, or one that is near a limit.
func randomStart(r *rand.Rand) impl.Pipe {
	p := impl.NewPipe()
	switch r.Intn(6) {
	case 0:
		p.Now = impl.MaxNow - r.Intn(300)
	case 1:
		p.Next = impl.MaxNow - r.Intn(20)
	case 2:
		p.Log = slices.Repeat([]impl.Entry{entry(1, 1, 0)}, 4060)
		p.Next = 2
	}
	return p
}

// checkEvent compares DoEvent with the model, and returns the result.
func checkEvent(t *testing.T, p impl.Pipe, e impl.Event) (impl.Pipe, int, int) {
	t.Helper()
	want, wantOutcome, wantCode := modelDo(p, e)
	x, outcome, code := impl.DoEvent(p, e)
	if !equalPipes(x, want) || outcome != wantOutcome || code != wantCode {
		t.Fatalf("DoEvent(%s, %s) = %s, %d, %d, not %s, %d, %d", briefPipe(p), briefEvent(e), briefPipe(x), outcome, code, briefPipe(want), wantOutcome, wantCode)
	}
	if code != impl.ErrBad && !impl.PipeOK(x) {
		t.Fatalf("DoEvent(%s, %s) is the invalid pipeline %s", briefPipe(p), briefEvent(e), briefPipe(x))
	}
	return x, outcome, code
}

// outcomesOfKinds are the outcomes that an event of each Kind may have, of the
// codes of a header only some.
var outcomesOfKinds = [][2]int{
	{1, 0}, {1, impl.ErrForm}, {1, impl.ErrMany}, {1, impl.ErrFull}, {2, 0}, {2, impl.ErrRange}, {2, impl.ErrNone}, {2, impl.ErrFull}, {3, 0}, {3, impl.ErrMany}, {3, impl.ErrFull},
	{4, 0}, {4, impl.ErrName}, {4, impl.ErrAgain}, {4, impl.ErrFull}, {5, 0}, {6, 0}, {6, impl.ErrName}, {6, impl.ErrNone}, {6, impl.ErrLater}, {6, impl.ErrGone},
}

// TestPromise8 does long sequences of events, of which all outcomes come up.
func TestPromise8(t *testing.T) {
	r := rand.New(rand.NewSource(81))
	found := map[[2]int]int{}
	kinds := map[int]int{}
	full := 0
	for i := range 300 {
		p := randomStart(r)
		for _, e := range eventsOf(r, 150, i%3 == 0)[i%4:] {
			if impl.EventOK(e) != modelEventOK(e) {
				t.Fatalf("EventOK(%s) is not %v", briefEvent(e), modelEventOK(e))
			}
			before := p
			x, outcome, code := checkEvent(t, p, e)
			if code == impl.ErrFull {
				full++
				break
			}
			found[[2]int{e.Kind, outcome}]++
			unchanged := e.Kind < impl.EvViolation && outcome != impl.OK
			if unchanged && !impl.SamePipe(before, x) {
				t.Fatalf("%s changed something, although its outcome is %d", briefEvent(e), outcome)
			}
			for _, y := range x.Log[len(p.Log):] {
				kinds[y.Kind]++
			}
			p = x
		}
	}
	for _, v := range outcomesOfKinds {
		if found[v] < 10 {
			t.Errorf("an event of Kind %d has the outcome %d only %d times", v[0], v[1], found[v])
		}
	}
	for kind := 1; kind <= 7; kind++ {
		if kinds[kind] < 50 {
			t.Errorf("only %d entries of Kind %d", kinds[kind], kind)
		}
	}
	if full < 20 {
		t.Errorf("only %d pipelines are full", full)
	}
}

// TestModelOfRuns: RunEvents does its events in sequence.
func TestModelOfRuns(t *testing.T) {
	r := rand.New(rand.NewSource(82))
	for i := range 400 {
		list := eventsOf(r, 60-r.Intn(1+r.Intn(58)), i%3 == 0)[i%2:]
		p := impl.NewPipe()
		var outcomes []int
		for _, e := range list {
			x, outcome, _ := impl.DoEvent(p, e)
			p, outcomes = x, append(outcomes, outcome)
		}
		runs(t, list, p, outcomes...)
		bad := slices.Clone(list)
		bad[r.Intn(len(bad))].Kind += 6
		refusesRun(t, impl.ErrBad, bad...)
		if t.Failed() {
			return
		}
	}
}

// randomPipe returns a pipeline after random events.
func randomPipe(r *rand.Rand) impl.Pipe {
	p := impl.NewPipe()
	for _, e := range eventsOf(r, r.Intn(40), r.Intn(2) == 0) {
		p, _, _ = impl.DoEvent(p, e)
	}
	return p
}

// changedPipe changes p in one place, which need not make it invalid.
func changedPipe(r *rand.Rand, p impl.Pipe) impl.Pipe {
	p = copied(p)
	number := []int{-1, 0, 1, 7, 8, p.Now, p.Now + 1, p.Next - 1, p.Next, 999999, 1000000, 1000001, r.Intn(100)}[r.Intn(13)]
	if len(p.Channels) == 0 || r.Intn(20) == 0 {
		p.Channels = append(p.Channels, newChannel(endpoint(randomGroupName(r), "https://x/")))
	}
	if len(p.Log) == 0 || r.Intn(20) == 0 {
		p.Log = append(p.Log, entry(1, 1, 0))
	}
	if len(p.Wires) == 0 || r.Intn(20) == 0 {
		p.Wires = append(p.Wires, wire(0, 1))
	}
	c, x, w := &p.Channels[r.Intn(len(p.Channels))], &p.Log[r.Intn(len(p.Log))], &p.Wires[r.Intn(len(p.Wires))]
	switch r.Intn(18) {
	case 0:
		p.Now = number
	case 1:
		p.Next = number
	case 2:
		x.Kind = number
	case 3:
		x.Id = number
	case 4:
		x.At = number
	case 5:
		w.At = number
	case 6:
		w.Status = []int{0, 99, 100, 200, 599, 600}[r.Intn(6)]
	case 7:
		w.Group = []string{"", "a", "1", "uri"}[r.Intn(4)]
	case 8:
		w.Url = strings.Repeat("a", []int{0, 99, 100, 101}[r.Intn(4)])
	case 9:
		w.Body = strings.Repeat("a", []int{0, 65535, 65536, 65537}[r.Intn(4)])
	case 10:
		w.Ids = append(w.Ids, number)
	case 11:
		w.Ids[r.Intn(len(w.Ids))] = number
	case 12:
		c.Queue = changedQueue(r, c.Queue)
	case 13:
		c.Peers = changedPeers(r, c.Peers)
	case 14:
		c.Group.Name = randomGroupName(r)
	case 15:
		c.Group.Age = number
	case 16:
		c.Group.Targets = c.Group.Targets[min(r.Intn(2), len(c.Group.Targets)):]
	case 17:
		p.Policy = brokenPolicy(r, p.Policy)
	}
	return p
}

func changedEvent(r *rand.Rand, e impl.Event) impl.Event {
	number := []int{-1, 0, 1, 6, 7, 99, 100, 599, 600, 1000, 1001, 1000000, 1000001}[r.Intn(13)]
	switch r.Intn(8) {
	case 0:
		e.Kind = number
	case 1:
		e.Draw = number
	case 2:
		e.Status = number
	case 3:
		e.Ticks = number
	case 4:
		e.Text = strings.Repeat("a", []int{0, 1, 4096, 4097}[r.Intn(4)])
	case 5:
		e.Name = []string{"", "a", "1", "csp", "a_2345678901", "a_23456789012"}[r.Intn(6)]
	case 6:
		e.Lost = !e.Lost
	case 7:
		e.Violation = changedViolation(r, e.Violation)
	}
	return e
}

// TestModelOfPipes does events of which some are invalid, to pipelines of which
// some are.
func TestModelOfPipes(t *testing.T) {
	r := rand.New(rand.NewSource(83))
	valid, invalid, bad, same := 0, 0, 0, 0
	for i := range 6000 {
		p := randomPipe(r)
		other := p
		for range i % 3 {
			p = changedPipe(r, p)
		}
		ok := modelPipeOK(p)
		if impl.PipeOK(p) != ok {
			t.Fatalf("PipeOK(%s) is not %v", briefPipe(p), ok)
		}
		if impl.SamePipe(p, p) != ok || impl.SamePipe(p, other) != (ok && equalPipes(p, other)) || impl.SamePipe(other, p) != (ok && equalPipes(p, other)) {
			t.Fatalf("SamePipe of %s and %s is wrong", briefPipe(p), briefPipe(other))
		}
		if ok {
			valid++
		} else {
			invalid++
		}
		if ok && equalPipes(p, other) {
			same++
		}
		for k := range 4 {
			e := randomEvent(r)
			for range k / 2 {
				e = changedEvent(r, e)
			}
			if impl.EventOK(e) != modelEventOK(e) {
				t.Fatalf("EventOK(%s) is not %v", briefEvent(e), modelEventOK(e))
			}
			if !modelEventOK(e) {
				bad++
			}
			checkEvent(t, p, e)
		}
	}
	if valid < 2500 || invalid < 1500 || bad < 2000 || same < 1500 {
		t.Errorf("%d valid, %d invalid, %d invalid events, %d same", valid, invalid, bad, same)
	}
}

// taken does an event, which must not be refused.
func taken(t *testing.T, p impl.Pipe, e impl.Event) (impl.Pipe, int) {
	t.Helper()
	x, outcome, code := impl.DoEvent(p, e)
	if code != impl.OK {
		t.Fatalf("DoEvent(%s, %s): code %d", briefPipe(p), briefEvent(e), code)
	}
	return x, outcome
}

// witness knows the endpoints of each channel from events and wires alone.
type witness struct {
	endpoints map[string][]life
	pipe      impl.Pipe
	failures  int
}

// do does an event and compares what was sent with what the endpoints would
// take.
func (x *witness) do(t *testing.T, e impl.Event) {
	t.Helper()
	p, outcome := taken(t, x.pipe, e)
	before := x.pipe
	x.pipe = p
	switch e.Kind {
	case impl.EvEndpoints, impl.EvReportTo, impl.EvPolicy:
		if groups, _ := modelSets(e); outcome == impl.OK {
			x.name(groups)
		}
	case impl.EvSend:
		if len(p.Wires) == len(before.Wires) {
			x.notSent(t, before, e, outcome)
			return
		}
		x.sent(t, p.Wires[len(p.Wires)-1])
	}
}

func (x *witness) name(groups []impl.Group) {
	for _, g := range groups {
		x.endpoints[g.Name] = renamed(x.endpoints[g.Name], g)
	}
}

// sent: the endpoint is ready, and no ready one has a lesser Priority.
func (x *witness) sent(t *testing.T, w impl.Wire) {
	t.Helper()
	list := x.endpoints[w.Group]
	k := slices.IndexFunc(list, func(one life) bool { return one.target.Url == w.Url })
	if k < 0 || !list[k].isReady(w.At) {
		t.Fatalf("%+v was sent to an endpoint that is not ready: %+v", w, list)
	}
	for _, one := range list {
		if one.isReady(w.At) && one.target.Priority < list[k].target.Priority {
			t.Fatalf("%+v was not sent to a ready endpoint of a lesser Priority: %+v", w, list)
		}
	}
	switch {
	case w.Status/100 == 2 && !w.Lost:
		list[k].failures = 0
	case w.Status == 410 && !w.Lost:
		list[k].gone = true
	default:
		list[k].failures++
		list[k].lastFailure = w.At
		x.failures++
	}
}

// notSent: if the outcome is ErrLater, no endpoint is ready.
func (x *witness) notSent(t *testing.T, before impl.Pipe, e impl.Event, outcome int) {
	t.Helper()
	if outcome != impl.ErrName && outcome != impl.ErrNone && outcome != impl.ErrLater || !equalPipes(x.pipe, before) {
		t.Fatalf("DoEvent(%s, %s): nothing was sent, but %d", briefPipe(before), briefEvent(e), outcome)
	}
	for _, one := range x.endpoints[e.Name] {
		if outcome == impl.ErrLater && one.isReady(before.Now) {
			t.Fatalf("DoEvent(%s, %s): nothing was sent, although %+v is ready", briefPipe(before), briefEvent(e), one)
		}
	}
}

// checkWake: until the time that NextWake tells, nothing is sent; then it is.
// It returns whether there was one to wait for.
func checkWake(t *testing.T, r *rand.Rand, p impl.Pipe, c impl.Channel) bool {
	t.Helper()
	at, code := impl.NextWake(c.Peers, p.Now)
	if code != impl.OK || at > impl.MaxNow {
		leavesUnsent(t, r, p, c)
		return false
	}
	waits := at > p.Now
	for p.Now < at {
		leavesUnsent(t, r, p, c)
		p = done(t, p, tickEvent(1))
	}
	place := modelPlace(p, c.Group.Name)
	if len(p.Channels[place].Queue.Items) == 0 {
		return false
	}
	e := sendEvent(c.Group.Name, r.Intn(1000001), 200)
	if x := done(t, p, e); len(x.Wires) != len(p.Wires)+1 {
		t.Fatalf("DoEvent(%s, %s): nothing was sent at the announced time", briefPipe(p), briefEvent(e))
	}
	return waits
}

func leavesUnsent(t *testing.T, r *rand.Rand, p impl.Pipe, c impl.Channel) {
	t.Helper()
	outcome := impl.ErrLater
	if place := modelPlace(p, c.Group.Name); len(p.Channels[place].Queue.Items) == 0 {
		outcome = impl.ErrNone
	}
	leaves(t, p, sendEvent(c.Group.Name, r.Intn(1000001), 200), outcome)
}

// TestPromise13 does long sequences of events.
func TestPromise13(t *testing.T) {
	r := rand.New(rand.NewSource(84))
	waits, failures := 0, 0
	for i := range 150 {
		x := &witness{endpoints: map[string][]life{}, pipe: impl.NewPipe()}
		x.pipe.Now = []int{0, 0, impl.MaxNow - 200}[r.Intn(3)]
		for _, e := range eventsOf(r, 120, i%3 > 0) {
			x.do(t, e)
			c := x.pipe.Channels
			if len(c) > 0 && r.Intn(4) == 0 && checkWake(t, r, x.pipe, c[r.Intn(len(c))]) {
				waits++
			}
			if t.Failed() {
				return
			}
		}
		failures += x.failures
	}
	if waits < 150 || failures < 1000 {
		t.Errorf("%d times to wait, %d failures", waits, failures)
	}
}

// deliver answers successfully at the time that NextWake tells, until the queue
// of a channel is empty. It returns the pipeline and the number of answers.
func deliver(t *testing.T, r *rand.Rand, p impl.Pipe, name string) (impl.Pipe, int) {
	t.Helper()
	place := modelPlace(p, name)
	at, code := impl.NextWake(p.Channels[place].Peers, p.Now)
	if code != impl.OK || at > impl.MaxNow {
		return p, 0
	}
	if at > p.Now {
		p = done(t, p, tickEvent(at-p.Now))
	}
	ids := []int{}
	for _, item := range p.Channels[place].Queue.Items {
		ids = append(ids, item.Id)
	}
	before, answers := len(p.Log), 0
	for len(p.Channels[place].Queue.Items) > 0 {
		p = done(t, p, sendEvent(name, r.Intn(1000001), 200+r.Intn(100)))
		answers++
	}
	var told []int
	for _, x := range p.Log[before:] {
		if x.Kind != impl.FaDelivered || x.At != p.Now {
			t.Fatalf("%s: an entry of another Kind or time", briefPipe(p))
		}
		told = append(told, x.Id)
	}
	if !slices.Equal(told, ids) || answers != (len(ids)+2)/3 {
		t.Fatalf("%s: %v were delivered with %d answers, not %v", briefPipe(p), told, answers, ids)
	}
	return p, answers
}

// TestPromise14 stops long sequences of events again and again, to see that
// whatever is queued then can be delivered.
func TestPromise14(t *testing.T) {
	r := rand.New(rand.NewSource(85))
	counts := [3]int{}
	for i := range 150 {
		p := impl.NewPipe()
		p.Now = i % 2 * (impl.MaxNow - 300)
		for _, e := range eventsOf(r, 120, i%3 == 0) {
			p, _ = taken(t, p, e)
			if r.Intn(4) > 0 {
				continue
			}
			for _, c := range p.Channels {
				_, answers := deliver(t, r, p, c.Group.Name)
				counts[answers]++
			}
		}
	}
	if counts[1] < 500 || counts[2] < 300 {
		t.Errorf("how often with so many answers: %v", counts)
	}
}

// TestDeliveryAfterFailures: reports are delivered as long as fewer than four
// answers for each fail, whether they are lost or tell of an error, and with
// another endpoint if one is gone.
func TestDeliveryAfterFailures(t *testing.T) {
	r := rand.New(rand.NewSource(86))
	failing := []impl.Event{sendEvent("csp", 0, 500), lost(sendEvent("csp", 0, 200)), lost(sendEvent("csp", 0, 410)), sendEvent("csp", 0, 300), sendEvent("csp", 0, 199)}
	for n := 1; n <= impl.MaxQueue; n++ {
		for times := range impl.MaxTries + 1 {
			for _, urls := range [][]string{{"https://a/"}, {"https://a/", "https://b/"}, {"https://a/", "https://b/", "https://c/"}} {
				p := pipe(toCsp, "csp")
				p.Channels[0].Group.Targets = nil
				for i, url := range urls {
					p.Channels[0].Group.Targets = append(p.Channels[0].Group.Targets, target(url, 1+i%2, 1))
				}
				p.Channels[0] = newChannel(p.Channels[0].Group)
				for line := range n {
					p = done(t, p, violationEvent(impl.Violation{Directive: "x", Line: line}))
				}
				for range times {
					e := failing[r.Intn(len(failing))]
					at, _ := impl.NextWake(p.Channels[0].Peers, p.Now)
					if at > p.Now {
						p = done(t, p, tickEvent(at-p.Now))
					}
					p, _, _ = impl.DoEvent(p, e)
				}
				left := n
				if times == impl.MaxTries {
					left = max(n-3, 0)
				}
				if got := len(p.Channels[0].Queue.Items); got != left {
					t.Fatalf("%s: %d reports are left, not %d", briefPipe(p), got, left)
				}
				x, answers := deliver(t, r, p, "csp")
				if answers != (left+2)/3 || len(x.Channels[0].Queue.Items) != 0 {
					t.Fatalf("%s: %d answers", briefPipe(x), answers)
				}
			}
		}
	}
	p := pipe(toCsp, "csp")
	p.Channels[0] = newChannel(group("csp", 100, target("https://a/", 1, 9), target("https://b/", 2, 1)))
	p = done(t, p, violationEvent(ordinary()))
	p, _, _ = impl.DoEvent(p, sendEvent("csp", 0, 410))
	if x, answers := deliver(t, r, p, "csp"); answers != 1 || x.Wires[1].Url != "https://b/" {
		t.Errorf("%s: %d answers", briefPipe(x), answers)
	}
	p, _, _ = impl.DoEvent(p, sendEvent("csp", 0, 410))
	for range 100 {
		leaves(t, p, sendEvent("csp", 0, 200), impl.ErrLater)
		p = done(t, p, tickEvent(1))
	}
}
