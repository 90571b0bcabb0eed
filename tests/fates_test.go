package tests

import (
	"math"
	"slices"
	"strings"
	"testing"

	"loop.example/g00779/impl"
)

// logged returns a pipeline without channels whose entries have these Kinds and
// Ids.
func logged(next int, list ...[2]int) impl.Pipe {
	p := impl.Pipe{Now: 5000, Next: next}
	for i, x := range list {
		p.Log = append(p.Log, entry(x[0], x[1], i/2))
	}
	return p
}

// holding returns p with a channel for each list of Ids, which are queued in
// it.
func holding(p impl.Pipe, queues ...[]int) impl.Pipe {
	p.Channels = channels(len(queues))
	for i, ids := range queues {
		q := &p.Channels[i].Queue
		q.Items = nil
		for _, id := range ids {
			q.Items = append(q.Items, report(id, 0, id%4, "x"))
		}
	}
	return p
}

func hasFate(t *testing.T, p impl.Pipe, id, want int) {
	t.Helper()
	if kind, code := impl.FateOf(p, id); kind != want || code != impl.OK {
		t.Errorf("FateOf(%s, %d) = %d, %d, not %d", briefPipe(p), id, kind, code, want)
	}
}

func hasNoFate(t *testing.T, p impl.Pipe, id int) {
	t.Helper()
	if kind, code := impl.FateOf(p, id); kind != 0 || code != impl.ErrNone {
		t.Errorf("FateOf(%s, %d) = %d, %d, not ErrNone", briefPipe(p), id, kind, code)
	}
	hasEntries(t, p, id)
}

func hasEntries(t *testing.T, p impl.Pipe, id int, want ...impl.Entry) {
	t.Helper()
	if list, code := impl.EntriesOf(p, id); !slices.Equal(list, want) || code != impl.OK {
		t.Errorf("EntriesOf(%s, %d) = %v, %d, not %v", briefPipe(p), id, list, code, want)
	}
}

func hasIds(t *testing.T, p impl.Pipe, kind int, want ...int) {
	t.Helper()
	if ids, code := impl.IdsOf(p, kind); !slices.Equal(ids, want) || code != impl.OK {
		t.Errorf("IdsOf(%s, %d) = %v, %d, not %v", briefPipe(p), kind, ids, code, want)
	}
}

func hasCounts(t *testing.T, p impl.Pipe, want ...int) {
	t.Helper()
	if counts, code := impl.CountFates(p); !slices.Equal(counts, want) || code != impl.OK {
		t.Errorf("CountFates(%s) = %v, %d, not %v", briefPipe(p), counts, code, want)
	}
}

func hasQueued(t *testing.T, p impl.Pipe, want ...int) {
	t.Helper()
	if ids, code := impl.QueuedNow(p); !slices.Equal(ids, want) || code != impl.OK {
		t.Errorf("QueuedNow(%s) = %v, %d, not %v", briefPipe(p), ids, code, want)
	}
}

func oneFate(t *testing.T, p impl.Pipe, want bool) {
	t.Helper()
	if yes, code := impl.OneFate(p); yes != want || code != impl.OK {
		t.Errorf("OneFate(%s) = %v, %d, not %v", briefPipe(p), yes, code, want)
	}
}

// someIds are asked for where no Id can change the answer.
var someIds = []int{math.MinInt, -1, 0, 1, 2, 50, 51, 4096, 1000000, math.MaxInt}

// refusesFates checks that all functions of chapter 10 refuse an invalid
// pipeline.
func refusesFates(t *testing.T, p impl.Pipe) {
	t.Helper()
	for _, id := range someIds {
		if kind, code := impl.FateOf(p, id); kind != 0 || code != impl.ErrBad {
			t.Errorf("FateOf(%s, %d) = %d, %d, not ErrBad", briefPipe(p), id, kind, code)
		}
		if list, code := impl.EntriesOf(p, id); len(list) != 0 || code != impl.ErrBad {
			t.Errorf("EntriesOf(%s, %d) = %v, %d, not ErrBad", briefPipe(p), id, list, code)
		}
	}
	if ids, code := impl.QueuedNow(p); len(ids) != 0 || code != impl.ErrBad {
		t.Errorf("QueuedNow(%s) = %v, %d, not ErrBad", briefPipe(p), ids, code)
	}
	refusesEveryId(t, p, impl.ErrBad)
}

// refusesEveryId checks the functions that go through all Ids.
func refusesEveryId(t *testing.T, p impl.Pipe, want int) {
	t.Helper()
	for _, kind := range []int{math.MinInt, -1, 0, 1, 2, 7, 8, math.MaxInt} {
		if ids, code := impl.IdsOf(p, kind); len(ids) != 0 || code != want {
			t.Errorf("IdsOf(%s, %d) = %v, %d, not the code %d", briefPipe(p), kind, ids, code, want)
		}
	}
	if counts, code := impl.CountFates(p); len(counts) != 0 || code != want {
		t.Errorf("CountFates(%s) = %v, %d, not the code %d", briefPipe(p), counts, code, want)
	}
	if yes, code := impl.OneFate(p); yes || code != want {
		t.Errorf("OneFate(%s) = %v, %d, not the code %d", briefPipe(p), yes, code, want)
	}
}

// brokenPlaces are changes of laden after each of which it is invalid in one
// place.
var brokenPlaces = []func(*impl.Pipe){
	func(p *impl.Pipe) { p.Now = -1 },
	func(p *impl.Pipe) { p.Now = 499 },
	func(p *impl.Pipe) { p.Now = 1000001 },
	func(p *impl.Pipe) { p.Policy.ReportTo = "other" },
	func(p *impl.Pipe) { p.Policy.Rules[2].Name = "A" },
	func(p *impl.Pipe) { p.Channels = append(p.Channels, channels(3)...) },
	func(p *impl.Pipe) { p.Channels[2].Group.Name = "csp" },
	func(p *impl.Pipe) { p.Channels[0].Group.Age = 0 },
	func(p *impl.Pipe) { p.Channels[0].Peers = p.Channels[0].Peers[:1] },
	func(p *impl.Pipe) { p.Channels[0].Peers[1].Fails = -1 },
	func(p *impl.Pipe) { p.Channels[0].Queue = sized(6, 6) },
	func(p *impl.Pipe) { p.Channels[0].Queue = sized(5, 7) },
	func(p *impl.Pipe) { p.Channels[0].Queue.Items[1].Id = 10 },
	func(p *impl.Pipe) { p.Channels[0].Queue.Items[4].Born = 501 },
	func(p *impl.Pipe) { p.Log[3].Kind = 0 },
	func(p *impl.Pipe) { p.Log[3].Kind = 8 },
	func(p *impl.Pipe) { p.Log[0].Id = 0 },
	func(p *impl.Pipe) { p.Log[0].At = -1 },
	func(p *impl.Pipe) { p.Log[1].At = 99 },
	func(p *impl.Pipe) { p.Log[3].At = 501 },
	func(p *impl.Pipe) { p.Log = slices.Repeat([]impl.Entry{entry(1, 1, 0)}, 4097) },
	func(p *impl.Pipe) { p.Wires[0].At = 501 },
	func(p *impl.Pipe) { p.Wires[1].Status = 99 },
	func(p *impl.Pipe) { p.Wires[1].Group = "" },
	func(p *impl.Pipe) { p.Wires[1].Url = strings.Repeat("a", 101) },
	func(p *impl.Pipe) { p.Wires[1].Ids = nil },
	func(p *impl.Pipe) { p.Wires[0].Ids[1] = 1 },
	func(p *impl.Pipe) { p.Wires[1].Body = strings.Repeat("a", 65537) },
	func(p *impl.Pipe) { p.Wires = slices.Repeat(p.Wires, 2049) },
}

// TestFatesOfInvalidPipes: ErrBad comes first, also where Next is beyond
// MaxList.
func TestFatesOfInvalidPipes(t *testing.T) {
	for _, change := range brokenPlaces {
		for _, next := range []int{51, 4096, 4097, 1000000} {
			p := after(laden(), func(p *impl.Pipe) { p.Next = next })
			hasFate(t, p, 50, impl.FaUnknown)
			refusesFates(t, after(p, change))
		}
	}
	// Nor may an Id be that of a later report.
	for _, next := range []int{math.MinInt, -1, 0, 50, 1000001, math.MaxInt} {
		refusesFates(t, after(laden(), func(p *impl.Pipe) { p.Next = next }))
	}
	for _, next := range []int{4096, 4097} {
		refusesFates(t, logged(next, [2]int{1, next}))
		refusesFates(t, holding(logged(next), []int{next}))
		refusesFates(t, holding(logged(next), []int{1, 1}))
	}
	refusesFates(t, impl.Pipe{})
}

// TestManyIds: the functions that go through all Ids take no Next beyond
// MaxList, and the others do.
func TestManyIds(t *testing.T) {
	for _, next := range []int{4094, 4095, 4096} {
		p := holding(logged(next, [2]int{1, next - 1}, [2]int{6, 1}), []int{next - 1})
		hasIds(t, p, impl.FaQueued, next-1)
		hasIds(t, p, impl.FaDuplicate, 1)
		hasCounts(t, p, 1, 0, 0, 0, 0, 1, 0)
		oneFate(t, p, false)
	}
	for _, next := range []int{4097, 4098, 5000, 999999, 1000000} {
		p := holding(logged(next, [2]int{6, 1}, [2]int{1, next - 1}, [2]int{3, 7}, [2]int{7, next - 1}), []int{3, next - 1}, nil, []int{2, next - 2})
		refusesEveryId(t, p, impl.ErrMany)
		hasFate(t, p, next-1, impl.FaUnknown)
		hasFate(t, p, 1, impl.FaDuplicate)
		hasEntries(t, p, next-1, entry(1, next-1, 0), entry(7, next-1, 1))
		hasQueued(t, p, 2, 3, next-2, next-1)
		for _, id := range []int{-1, 0, 2, 4095, next - 2, next, next + 1, 1000001} {
			hasNoFate(t, p, id)
		}
		refusesEveryId(t, impl.Pipe{Next: next}, impl.ErrMany)
	}
}

func TestKindsOfIds(t *testing.T) {
	for _, p := range []impl.Pipe{impl.NewPipe(), laden(), logged(4096)} {
		for _, kind := range []int{math.MinInt, -7, -1, 0, 8, 9, 256 + 1, 1<<32 + 1, math.MaxInt} {
			if ids, code := impl.IdsOf(p, kind); len(ids) != 0 || code != impl.ErrKind {
				t.Errorf("IdsOf(%s, %d) = %v, %d, not ErrKind", briefPipe(p), kind, ids, code)
			}
		}
	}
	for kind := 1; kind <= 7; kind++ {
		hasIds(t, impl.NewPipe(), kind)
		hasIds(t, logged(4096), kind)
	}
}

// TestFateOf: the last entry counts, whatever Kinds the earlier ones have and
// wherever those of other Ids are.
func TestFateOf(t *testing.T) {
	for a := 1; a <= 7; a++ {
		other := 8 - a
		hasFate(t, logged(2, [2]int{a, 1}), 1, a)
		hasFate(t, logged(9, [2]int{other, 7}, [2]int{a, 8}, [2]int{other, 1}), 8, a)
		for b := 1; b <= 7; b++ {
			hasFate(t, logged(2, [2]int{b, 1}, [2]int{a, 1}), 1, a)
			hasFate(t, logged(9, [2]int{b, 1}, [2]int{other, 2}, [2]int{a, 1}, [2]int{other, 2}), 1, a)
			for c := 1; c <= 7; c++ {
				hasFate(t, logged(9, [2]int{other, 3}, [2]int{c, 5}, [2]int{b, 5}, [2]int{other, 4}, [2]int{a, 5}, [2]int{other, 6}), 5, a)
			}
		}
	}
}

// TestNoFate: an Id without an entry has no fate, whether it may be that of a
// report or not, and whether it is queued or was sent.
func TestNoFate(t *testing.T) {
	p := holding(logged(9, [2]int{1, 2}, [2]int{6, 8}), []int{1, 2, 3})
	p.Wires = []impl.Wire{wire(0, 3, 4)}
	for _, id := range []int{math.MinInt, -8, -2, -1, 0, 1, 3, 4, 7, 9, 10, 256 + 2, 1<<32 + 2, 1000000, math.MaxInt} {
		hasNoFate(t, p, id)
	}
	hasFate(t, p, 2, impl.FaQueued)
	hasFate(t, p, 8, impl.FaDuplicate)
	hasNoFate(t, logged(9, [2]int{1, 2}), 8)
	for _, id := range someIds {
		hasNoFate(t, impl.NewPipe(), id)
		hasNoFate(t, logged(1000000), id)
	}
}

func TestEntriesOf(t *testing.T) {
	p := logged(9, [2]int{7, 3}, [2]int{1, 5}, [2]int{5, 3}, [2]int{1, 5}, [2]int{1, 5}, [2]int{2, 8}, [2]int{4, 5})
	hasEntries(t, p, 3, entry(7, 3, 0), entry(5, 3, 1))
	hasEntries(t, p, 5, entry(1, 5, 0), entry(1, 5, 1), entry(1, 5, 2), entry(4, 5, 3))
	hasEntries(t, p, 8, entry(2, 8, 2))
	for _, id := range []int{math.MinInt, -5, -1, 0, 1, 2, 4, 6, 7, 9, math.MaxInt} {
		hasEntries(t, p, id)
	}
	full := limited(4096, 0)
	hasEntries(t, full, 1, full.Log...)
	hasEntries(t, full, 2)
}

// TestNeverAccepted: a duplicate or a report with no endpoint has its only
// entry, whatever becomes of those beside it.
func TestNeverAccepted(t *testing.T) {
	see := func(line int) impl.Event {
		return violationEvent(impl.Violation{Document: "https://d/", Directive: "x", Line: line})
	}
	p, _, _ := impl.RunEvents([]impl.Event{
		see(1), see(1), policyEvent("report-to csp"), see(1), endpointsEvent(`csp="https://a/"`), see(1), see(1), see(2), see(1), see(2), policyEvent(""), see(3),
		sendEvent("csp", 0, 200), policyEvent("report-to csp"), see(1), see(3), see(2), tickEvent(101), see(3), policyEvent("report-to CSP"), see(4),
	})
	oneFate(t, p, true)
	hasIds(t, p, impl.FaUnknown, 1, 2, 3, 9, 14)
	hasIds(t, p, impl.FaDuplicate, 5, 7, 8, 10, 12, 13)
	hasIds(t, p, impl.FaDelivered, 4, 6)
	hasIds(t, p, impl.FaExpired, 11)
	hasIds(t, p, impl.FaQueued)
	hasQueued(t, p)
	hasCounts(t, p, 0, 2, 0, 1, 0, 6, 5)
	for id, at := range map[int]int{1: 0, 2: 0, 3: 0, 9: 0, 14: 101} {
		hasFate(t, p, id, impl.FaUnknown)
		hasEntries(t, p, id, entry(impl.FaUnknown, id, at))
	}
	for id, at := range map[int]int{5: 0, 7: 0, 8: 0, 10: 0, 12: 0, 13: 101} {
		hasFate(t, p, id, impl.FaDuplicate)
		hasEntries(t, p, id, entry(impl.FaDuplicate, id, at))
	}
	// Without a channel no report is ever accepted.
	p, _, _ = impl.RunEvents(slices.Repeat([]impl.Event{see(1)}, 60))
	oneFate(t, p, true)
	hasCounts(t, p, 0, 0, 0, 0, 0, 0, 60)
	hasQueued(t, p)
}

// eventsOfAllFates lead to reports of every fate, in two channels whose Ids lie
// between one another.
func eventsOfAllFates() []impl.Event {
	see := func(line int) impl.Event {
		return violationEvent(impl.Violation{Document: "https://d/", Directive: "x", Line: line})
	}
	toA, toB := policyEvent("report-to a"), policyEvent("report-to b")
	return []impl.Event{
		see(1), endpointsEvent(`a="https://a/", b="https://b/"`), toA, see(1), see(1), toB, see(1), sendEvent("b", 0, 200), see(2), policyEvent("report-to c"), see(3), tickEvent(101),
		toA, see(2), sendEvent("a", 0, 500), tickEvent(2), sendEvent("a", 0, 404), tickEvent(4), lost(sendEvent("a", 0, 200)), tickEvent(8), sendEvent("a", 0, 410),
		see(3), see(4), see(5), see(6), see(7), see(8), toB, see(3), see(3), see(4), toA, see(9), toB, see(5),
	}
}

// storiesOfAllFates are the Kinds of the entries of these reports.
var storiesOfAllFates = []string{"", "7", "14", "6", "12", "14", "7", "15", "13", "13", "1", "1", "1", "1", "1", "6", "1", "1", "1"}

func allFates(t *testing.T) impl.Pipe {
	t.Helper()
	p, _, code := impl.RunEvents(eventsOfAllFates())
	if code != impl.OK || p.Next != len(storiesOfAllFates) {
		t.Fatalf("RunEvents: got %s, %d", briefPipe(p), code)
	}
	return p
}

func TestAllFates(t *testing.T) {
	p := allFates(t)
	for id, story := range storiesOfAllFates[1:] {
		id++
		hasFate(t, p, id, int(story[len(story)-1]-'0'))
		list, code := impl.EntriesOf(p, id)
		if code != impl.OK || len(list) != len(story) {
			t.Errorf("EntriesOf(%s, %d) = %v, %d", briefPipe(p), id, list, code)
			continue
		}
		for i, x := range list {
			if x.Kind != int(story[i]-'0') || x.Id != id {
				t.Errorf("EntriesOf(%s, %d) = %v", briefPipe(p), id, list)
			}
		}
	}
	hasIds(t, p, impl.FaQueued, 10, 11, 12, 13, 14, 16, 17, 18)
	hasIds(t, p, impl.FaDelivered, 4)
	hasIds(t, p, impl.FaEvicted, 8, 9)
	hasIds(t, p, impl.FaExpired, 2, 5)
	hasIds(t, p, impl.FaExhausted, 7)
	hasIds(t, p, impl.FaDuplicate, 3, 15)
	hasIds(t, p, impl.FaUnknown, 1, 6)
	hasCounts(t, p, 8, 1, 2, 2, 1, 2, 2)
	hasQueued(t, p, 10, 11, 12, 13, 14, 16, 17, 18)
	hasEntries(t, p, 7, entry(1, 7, 101), entry(5, 7, 115))
	hasEntries(t, p, 9, entry(1, 9, 115), entry(3, 9, 115))
	oneFate(t, p, true)
}

// TestIdsInOrder: the Ids are increasing, whatever the order of their entries.
func TestIdsInOrder(t *testing.T) {
	for kind := 1; kind <= 7; kind++ {
		other := kind%7 + 1
		p := logged(9, [2]int{kind, 8}, [2]int{other, 7}, [2]int{kind, 3}, [2]int{other, 1}, [2]int{kind, 1}, [2]int{kind, 5}, [2]int{kind, 3}, [2]int{other, 5})
		hasIds(t, p, kind, 1, 3, 8)
		hasIds(t, p, other, 5, 7)
		want := make([]int, 7)
		want[kind-1], want[other-1] = 3, 2
		hasCounts(t, p, want...)
		for none := 1; none <= 7; none++ {
			if none != kind && none != other {
				hasIds(t, p, none)
			}
		}
	}
}

// TestAllIds: every Id has the same fate, also where they are as many as can
// be.
func TestAllIds(t *testing.T) {
	for kind := 1; kind <= 7; kind++ {
		for _, n := range []int{0, 1, 2, 100, 4094, 4095} {
			p := logged(n + 1)
			var ids []int
			for id := n; id >= 1; id-- {
				p.Log = append(p.Log, entry(kind, id, 9))
				ids = append(ids, id)
			}
			slices.Reverse(ids)
			hasIds(t, p, kind, ids...)
			counts := make([]int, 7)
			counts[kind-1] = n
			hasCounts(t, p, counts...)
			oneFate(t, p, n == 0 || kind == impl.FaDuplicate || kind == impl.FaUnknown)
		}
	}
}

// TestCountsWithoutEntries: an Id that has no entry is not counted.
func TestCountsWithoutEntries(t *testing.T) {
	for next := 1; next <= 10; next++ {
		hasCounts(t, logged(next), 0, 0, 0, 0, 0, 0, 0)
		if next < 5 {
			continue
		}
		p := logged(next, [2]int{1, 4}, [2]int{6, 2}, [2]int{2, 4})
		hasCounts(t, p, 0, 1, 0, 0, 0, 1, 0)
		oneFate(t, p, false)
	}
	hasCounts(t, logged(4096, [2]int{3, 4095}), 0, 0, 1, 0, 0, 0, 0)
	hasCounts(t, logged(4096), 0, 0, 0, 0, 0, 0, 0)
}

func TestQueuedNow(t *testing.T) {
	hasQueued(t, impl.NewPipe())
	hasQueued(t, laden(), 10, 10, 20, 20, 30, 40, 50)
	for _, v := range []struct {
		queues [][]int
		want   []int
	}{
		{nil, nil},
		{[][]int{nil}, nil},
		{[][]int{nil, nil, nil, nil, nil}, nil},
		{[][]int{{7}}, []int{7}},
		{[][]int{{1, 2, 3, 4, 5}}, []int{1, 2, 3, 4, 5}},
		{[][]int{nil, {2, 9}, nil}, []int{2, 9}},
		{[][]int{{5, 6}, {3, 4}, {1, 2}}, []int{1, 2, 3, 4, 5, 6}},
		{[][]int{{1, 4, 7}, {2, 5, 8}, {3, 6, 9}}, []int{1, 2, 3, 4, 5, 6, 7, 8, 9}},
		{[][]int{{9}, {1, 10}, nil, {2, 8}}, []int{1, 2, 8, 9, 10}},
		{[][]int{{3}, {3}}, []int{3, 3}},
		{[][]int{{1, 3}, {2, 3}, {3, 4}}, []int{1, 2, 3, 3, 3, 4}},
		{[][]int{{5, 10, 15, 20, 25}, {4, 9, 14, 19, 24}, {3, 8, 13, 18, 23}, {2, 7, 12, 17, 22}, {1, 6, 11, 16, 21}}, []int{1, 2, 3, 4, 5, 6, 7, 8, 9, 10, 11, 12, 13, 14, 15, 16, 17, 18, 19, 20, 21, 22, 23, 24, 25}},
		{slices.Repeat([][]int{{1, 2, 3, 4, 5}}, 5), []int{1, 1, 1, 1, 1, 2, 2, 2, 2, 2, 3, 3, 3, 3, 3, 4, 4, 4, 4, 4, 5, 5, 5, 5, 5}},
	} {
		// What the log tells does not count.
		hasQueued(t, holding(logged(30), v.queues...), v.want...)
		hasQueued(t, holding(logged(1000000, [2]int{1, 3}, [2]int{2, 1}, [2]int{1, 29}), v.queues...), v.want...)
	}
}

// stories returns all sequences of up to n Kinds.
func stories(n int) []string {
	list := []string{""}
	for i := 0; i < len(list) && len(list[i]) < n; i++ {
		for kind := '1'; kind <= '7'; kind++ {
			list = append(list, list[i]+string(kind))
		}
	}
	return list
}

// tell returns p with an entry for each Kind of a story.
func tell(p impl.Pipe, id int, story string) impl.Pipe {
	p.Log = slices.Clone(p.Log)
	for _, kind := range story {
		p.Log = append(p.Log, entry(int(kind-'0'), id, p.Now))
	}
	return p
}

// endedStories are those of reports that are in no queue.
var endedStories = []string{"6", "7", "12", "13", "14", "15"}

// TestStories tells every sequence of up to four Kinds of one report, alone or
// between others, and queues it nowhere, in either of two channels or in both.
func TestStories(t *testing.T) {
	for _, story := range stories(4) {
		for state := range 4 {
			var queues [2][]int
			for i := range queues {
				if state>>i&1 == 1 {
					queues[i] = []int{2}
				}
			}
			want := state == 0 && slices.Contains(endedStories, story) || (state == 1 || state == 2) && story == "1"
			p := tell(logged(4, [2]int{6, 1}, [2]int{7, 3}), 2, story)
			oneFate(t, holding(p, queues[0], queues[1]), want)
			if state < 2 {
				oneFate(t, holding(p, queues[0]), want)
			}
			// Beside it, one that is queued and one that was.
			p = tell(tell(logged(4, [2]int{1, 3}, [2]int{1, 1}), 2, story), 1, "4")
			oneFate(t, holding(p, append(queues[0], 3), queues[1]), want)
			oneFate(t, holding(p, queues[0], append(queues[1], 3)), want)
		}
	}
}

// TestStoriesInTurn: entries of other reports may be anywhere between those of
// one.
func TestStoriesInTurn(t *testing.T) {
	list := [][2]int{{1, 1}, {2, 1}, {1, 2}, {3, 2}, {6, 3}, {1, 4}}
	counts := map[bool]int{}
	permute(list, 0, func() {
		place := func(x [2]int) int { return slices.Index(list, x) }
		want := place([2]int{1, 1}) < place([2]int{2, 1}) && place([2]int{1, 2}) < place([2]int{3, 2})
		oneFate(t, holding(logged(5, list...), nil, []int{4}), want)
		counts[want]++
	})
	if counts[true] != 180 || counts[false] != 540 {
		t.Errorf("%v orders", counts)
	}
}

// permute calls see for every order of the list from an index on.
func permute[T any](list []T, from int, see func()) {
	if from == len(list) {
		see()
	}
	for i := from; i < len(list); i++ {
		list[from], list[i] = list[i], list[from]
		permute(list, from+1, see)
		list[from], list[i] = list[i], list[from]
	}
}

// TestOneFateOfEvents: after every event of a run, and then after events of all
// Kinds and outcomes, every report has one fate.
func TestOneFateOfEvents(t *testing.T) {
	found := map[[2]int]bool{}
	fullHouse := []impl.Event{endpointsEvent(`v="https://v/", w="https://w/", x="https://x/"`), endpointsEvent(`y="https://y/", z="https://z/"`)}
	next := append(eventsOfAllOutcomes(), sendEvent("a", 0, 200), sendEvent("b", 0, 410), lost(sendEvent("b", 0, 410)), tickEvent(1000))
	for _, start := range [][]impl.Event{nil, settled(), fullHouse, eventsOfAllFates()} {
		p := impl.NewPipe()
		oneFate(t, p, true)
		for _, e := range start {
			p, _, _ = impl.DoEvent(p, e)
			oneFate(t, p, true)
			for _, e := range next {
				x := p
				// The second time, a body is recent, or an endpoint has to wait.
				for range 2 {
					y, outcome, code := impl.DoEvent(x, e)
					if code != impl.OK {
						t.Fatalf("DoEvent(%s, %s): code %d", briefPipe(x), briefEvent(e), code)
					}
					found[[2]int{e.Kind, outcome}] = true
					oneFate(t, y, true)
					x = y
				}
			}
		}
	}
	for _, v := range outcomesOfKinds {
		if v != [2]int{impl.EvViolation, impl.ErrFull} && !found[v] {
			t.Errorf("no event of Kind %d has the outcome %d", v[0], v[1])
		}
	}
}

// changedFates checks OneFate after a change of a pipeline whose reports have
// all fates.
func changedFates(t *testing.T, want bool, change func(*impl.Pipe)) {
	t.Helper()
	oneFate(t, after(allFates(t), change), want)
}

// TestChangedKinds: a Kind may be replaced by one that ends a story like it.
func TestChangedKinds(t *testing.T) {
	ends := []int{0, 1, 2, 2, 2, 2, 3, 3}
	for i, x := range allFates(t).Log {
		for kind := 1; kind <= 7; kind++ {
			changedFates(t, ends[kind] == ends[x.Kind], func(p *impl.Pipe) { p.Log[i].Kind = kind })
		}
	}
}

// TestChangedEntries: no entry may be missing, be there twice, be that of
// another report, or come before the one that it follows; nor may there be any
// further one.
func TestChangedEntries(t *testing.T) {
	log := allFates(t).Log
	for i, x := range log {
		changedFates(t, false, func(p *impl.Pipe) { p.Log = slices.Delete(p.Log, i, i+1) })
		changedFates(t, false, func(p *impl.Pipe) { p.Log = slices.Insert(p.Log, i, p.Log[i]) })
		for id := 1; id < len(storiesOfAllFates); id++ {
			changedFates(t, id == x.Id, func(p *impl.Pipe) { p.Log[i].Id = id })
		}
		for k := i + 1; k < len(log); k++ {
			if log[k].Id == x.Id {
				changedFates(t, false, func(p *impl.Pipe) { p.Log[i].Kind, p.Log[k].Kind = p.Log[k].Kind, p.Log[i].Kind })
				changedFates(t, false, func(p *impl.Pipe) { p.Log[i].Kind = p.Log[k].Kind })
				changedFates(t, false, func(p *impl.Pipe) { p.Log[k].Kind = p.Log[i].Kind })
			}
		}
	}
	for id := 1; id < len(storiesOfAllFates); id++ {
		for kind := 1; kind <= 7; kind++ {
			for _, i := range []int{0, len(log) / 2, len(log)} {
				changedFates(t, false, func(p *impl.Pipe) {
					at := p.Now
					if i < len(log) {
						at = p.Log[i].At
					}
					p.Log = slices.Insert(p.Log, i, entry(kind, id, at))
				})
			}
		}
	}
	changedFates(t, false, func(p *impl.Pipe) { p.Log = nil })
}

// TestChangedQueues: a report that is queued is in one queue, once; no other
// one is.
func TestChangedQueues(t *testing.T) {
	queues := [][]int{{10, 11, 12, 13, 17}, {14, 16, 18}}
	changedFates(t, true, func(p *impl.Pipe) { *p = holding(*p, queues...) })
	changedFates(t, true, func(p *impl.Pipe) { *p = holding(*p, nil, queues[1], nil, queues[0]) })
	changedFates(t, true, func(p *impl.Pipe) { *p = holding(*p, []int{10, 12}, []int{16}, []int{13, 14, 17}, []int{11, 18}) })
	changedFates(t, false, func(p *impl.Pipe) { *p = holding(*p) })
	for i := range queues {
		changedFates(t, false, func(p *impl.Pipe) { p.Channels[i].Queue.Items = nil })
		for k := range queues[i] {
			changedFates(t, false, func(p *impl.Pipe) {
				items := &p.Channels[i].Queue.Items
				*items = slices.Delete(*items, k, k+1)
			})
		}
	}
	for id := 1; id < len(storiesOfAllFates); id++ {
		changedFates(t, false, func(p *impl.Pipe) { *p = holding(*p, queues[0], queues[1], []int{id}) })
		changedFates(t, id == 10, func(p *impl.Pipe) { *p = holding(*p, queues[0][1:], queues[1], []int{id}) })
		changedFates(t, id == 18, func(p *impl.Pipe) { *p = holding(*p, queues[0], queues[1][:2], []int{id}) })
	}
	// In the same queue an Id cannot be twice.
	refusesFates(t, after(allFates(t), func(p *impl.Pipe) { *p = holding(*p, queues[0], []int{14, 14, 16, 18}) }))
}

func TestChangedNext(t *testing.T) {
	for _, next := range []int{20, 21, 100, 4096} {
		changedFates(t, false, func(p *impl.Pipe) { p.Next = next })
	}
	refusesEveryId(t, after(allFates(t), func(p *impl.Pipe) { p.Next = 4097 }), impl.ErrMany)
	refusesFates(t, after(allFates(t), func(p *impl.Pipe) { p.Next = 18 }))
	// The Ids with an entry need not begin with 1, but then those before have none.
	p := logged(3, [2]int{7, 2})
	oneFate(t, p, false)
	oneFate(t, tell(p, 1, "6"), true)
}

// TestUnrelatedChanges: everything else is without meaning for the fates.
func TestUnrelatedChanges(t *testing.T) {
	for _, change := range []func(*impl.Pipe){
		func(p *impl.Pipe) { p.Now = 1000000 },
		func(p *impl.Pipe) { p.Policy = laden().Policy },
		func(p *impl.Pipe) { p.Wires = nil },
		func(p *impl.Pipe) { p.Wires = append(p.Wires, wire(0, 1), wire(0, 3, 8, 18)) },
		func(p *impl.Pipe) { p.Channels = append(p.Channels, channel("more", 3, sized(0, 6))) },
		func(p *impl.Pipe) { p.Channels[0], p.Channels[1] = p.Channels[1], p.Channels[0] },
		func(p *impl.Pipe) { p.Channels[0].Group.Name = "x" },
		func(p *impl.Pipe) { p.Channels[0].Group.Age = 1 },
		func(p *impl.Pipe) { p.Channels[0].Peers[0].Gone = false },
		func(p *impl.Pipe) { p.Channels[0].Queue.Recent = nil },
		func(p *impl.Pipe) {
			for i := range p.Channels[0].Queue.Items {
				p.Channels[0].Queue.Items[i] = report(p.Channels[0].Queue.Items[i].Id, 0, 3, "same")
			}
		},
		func(p *impl.Pipe) {
			for i := range p.Log {
				p.Log[i].At = 0
			}
		},
	} {
		changedFates(t, true, change)
		p := after(allFates(t), change)
		hasCounts(t, p, 8, 1, 2, 2, 1, 2, 2)
		hasQueued(t, p, 10, 11, 12, 13, 14, 16, 17, 18)
		hasFate(t, p, 7, impl.FaExhausted)
	}
}
