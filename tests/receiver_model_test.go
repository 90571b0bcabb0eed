package tests

import (
	"maps"
	"math/rand"
	"slices"
	"strings"
	"testing"

	"loop.example/g00779/impl"
)

// The model reads chapter 12 a second time. It does not go through the parcels
// of a wire one by one: it puts everything that was ever told of an Id into one
// set, so that a second body and too many Ids are sizes of sets.

func modelBoxOK(b impl.Box) bool {
	different := slices.Compact(slices.Sorted(slices.Values(b.Ids)))
	if len(b.Times) != len(b.Bodies) || len(b.Ids) != len(b.Bodies) || len(b.Ids) != len(different) || len(different) >= 4097 {
		return false
	}
	for i := range b.Ids {
		if min(b.Ids[i], b.Times[i]) <= 0 || max(b.Ids[i], b.Times[i]) >= 1000001 || len(b.Bodies[i]) >= 8001 {
			return false
		}
	}
	return true
}

// modelTimes tells how often each Id is among parcels.
func modelTimes(list []impl.Parcel) map[int]int {
	times := map[int]int{}
	for _, x := range list {
		times[x.Id]++
	}
	return times
}

func modelReceive(b impl.Box, w impl.Wire) (impl.Box, int) {
	if !modelBoxOK(b) {
		return impl.Box{}, impl.ErrBad
	}
	if w.Status < 200 || w.Status >= 300 {
		return b, impl.ErrState
	}
	list, code := modelParcelsOf(w)
	if code != impl.OK {
		return b, code
	}
	told, ids := map[impl.Parcel]bool{}, modelTimes(list)
	for i, id := range b.Ids {
		told[parcel(id, 0, b.Bodies[i])] = true
		ids[id] += 0
	}
	for _, x := range list {
		told[parcel(x.Id, 0, x.Body)] = true
	}
	if len(told) > len(ids) {
		return b, impl.ErrAgain
	}
	if len(ids) > 4096 {
		return b, impl.ErrFull
	}
	all := copiedBox(b)
	for i, id := range idsOf(list) {
		if !slices.Contains(all.Ids, id) {
			all.Ids, all.Times, all.Bodies = append(all.Ids, id), append(all.Times, 0), append(all.Bodies, list[i].Body)
		}
	}
	for i, id := range all.Ids {
		all.Times[i] = min(all.Times[i]+ids[id], 1000000)
	}
	return all, impl.OK
}

func modelReceiveAll(wires []impl.Wire) (impl.Box, int) {
	if len(wires) >= 4097 {
		return impl.Box{}, impl.ErrLong
	}
	b := impl.Box{}
	for _, w := range wires {
		more, code := modelReceive(b, w)
		if code != impl.OK && code != impl.ErrState {
			return impl.Box{}, code
		}
		b = more
	}
	return b, impl.OK
}

// checkReceive compares what is received with the model, and returns that.
func checkReceive(t *testing.T, b impl.Box, w impl.Wire) (impl.Box, int) {
	t.Helper()
	want, code := modelReceive(b, w)
	if x, c := impl.Receive(b, w); !equalBoxes(x, want) || c != code {
		t.Fatalf("Receive(%s, %s) = %s, %d, not %s, %d", briefBox(b), briefWire(w), briefBox(x), c, briefBox(want), code)
	}
	return want, code
}

func checkReceiveAll(t *testing.T, wires []impl.Wire) int {
	t.Helper()
	want, code := modelReceiveAll(wires)
	if x, c := impl.ReceiveAll(wires); !equalBoxes(x, want) || c != code {
		t.Fatalf("ReceiveAll(%d wires) = %s, %d, not %s, %d", len(wires), briefBox(x), c, briefBox(want), code)
	}
	return code
}

// checkBox compares what a box has with the model.
func checkBox(t *testing.T, b impl.Box) {
	t.Helper()
	if impl.BoxOK(b) != modelBoxOK(b) || impl.SameBox(b, copiedBox(b)) != modelBoxOK(b) {
		t.Fatalf("%s is valid: %v, %v, not %v", briefBox(b), impl.BoxOK(b), impl.SameBox(b, copiedBox(b)), modelBoxOK(b))
	}
	for id := -1; id < 15; id++ {
		switch i := slices.Index(b.Ids, id); {
		case !modelBoxOK(b):
			hasNot(t, b, id, impl.ErrBad)
		case i < 0:
			hasNot(t, b, id, impl.ErrNone)
		default:
			has(t, b, stored{id, b.Times[i], b.Bodies[i]})
		}
	}
}

// randomBodyOf returns a body that is most often the same for an Id.
func randomBodyOf(r *rand.Rand, id int) string {
	if r.Intn(30) == 0 {
		id += 1 + r.Intn(2)
	}
	return []string{"{}", `{"a":[1,"/"]}`, `{"b":{"c":""}}`}[id%3]
}

// randomBox returns a valid box of few Ids.
func randomBox(r *rand.Rand) impl.Box { return filledBox(r, r.Intn(8), 12) }

// filledBox returns a box of n Ids up to most.
func filledBox(r *rand.Rand, n, most int) impl.Box {
	var b impl.Box
	for _, i := range r.Perm(most)[:n] {
		times := []int{1, 2, 500, 999998, 999999, 1000000}[r.Intn(6)]
		b.Ids, b.Times, b.Bodies = append(b.Ids, i+1), append(b.Times, times), append(b.Bodies, randomBodyOf(r, i+1))
	}
	return b
}

// changedBox changes b in one place, which need not make it invalid.
func changedBox(r *rand.Rand, b impl.Box) impl.Box {
	b = copiedBox(b)
	number := []int{-1, 0, 1, 2, 3, 999999, 1000000, 1000001}[r.Intn(8)]
	if r.Intn(4) == 0 || len(b.Ids) != len(b.Times) || len(b.Ids) != len(b.Bodies) || len(b.Ids) == 0 {
		switch r.Intn(5) {
		case 0:
			b.Ids = append(b.Ids, number)
		case 1:
			b.Times = append(b.Times, number)
		case 2:
			b.Bodies = append(b.Bodies, "{}")
		case 3:
			b.Bodies = b.Bodies[:max(len(b.Bodies), 1)-1]
		case 4:
			b.Ids, b.Times, b.Bodies = append(b.Ids, 13), append(b.Times, 7), append(b.Bodies, "")
		}
		return b
	}
	i, k := r.Intn(len(b.Ids)), r.Intn(len(b.Ids))
	switch r.Intn(5) {
	case 0:
		b.Ids[i] = number
	case 1:
		b.Times[i] = number
	case 2:
		b.Bodies[i] = strings.Repeat("a", 7999+r.Intn(3))
	case 3:
		b.Ids[i] = b.Ids[k]
	case 4:
		b.Ids[i], b.Ids[k] = b.Ids[k], b.Ids[i]
	}
	return b
}

// randomAnswer returns a wire whose parcels have 13 Ids from the least on and
// most often the body of the Id; some wires are broken.
func randomAnswer(r *rand.Rand, least int) impl.Wire {
	var list []impl.Parcel
	j := impl.Json{Kind: impl.JsList}
	for range r.Intn(4) {
		id := least + r.Intn(13)
		list = append(list, parcel(id, r.Intn(1000001), randomBodyOf(r, id)))
		j.Items = append(j.Items, itemOf(list[len(list)-1], r.Perm(3)))
	}
	w := impl.Wire{Status: 200 + r.Intn(100), Ids: idsOf(list), Body: spelled(r, jsonParts(j)), Lost: r.Intn(2) == 0}
	switch r.Intn(12) {
	case 0:
		w.Status = []int{199, 300, 410, 500, -200, 0}[r.Intn(6)]
	case 1:
		w.Ids = append(w.Ids, 1)
	case 2:
		w.Body = misspelled(r, jsonParts(j))
	}
	return w
}

func TestModelOfBoxes(t *testing.T) {
	r := rand.New(rand.NewSource(111))
	valid := 0
	for i := range 6000 {
		a := randomBox(r)
		if i%200 == 0 {
			a = filledBox(r, 4095+r.Intn(2), 4097)
		}
		b := a
		for range i % 3 {
			b = changedBox(r, b)
		}
		checkBox(t, b)
		if same := modelBoxOK(b) && equalBoxes(a, b); impl.SameBox(a, b) != same || impl.SameBox(b, a) != same {
			t.Fatalf("SameBox(%s, %s) is not %v", briefBox(a), briefBox(b), same)
		}
		if i%3 > 0 && modelBoxOK(b) {
			valid++
		}
	}
	if valid < 1000 || valid > 3000 {
		t.Errorf("%d of 4000 changed boxes are valid", valid)
	}
}

func TestModelOfReceivers(t *testing.T) {
	r := rand.New(rand.NewSource(112))
	found := map[int]int{}
	for i := range 6000 {
		b := randomBox(r)
		if i%5 == 0 {
			b = changedBox(r, b)
		}
		// A box that was refused or received is as good as a new one.
		for range 3 {
			var code int
			b, code = checkReceive(t, b, randomAnswer(r, 1))
			found[code]++
		}
	}
	for range 60 {
		b := filledBox(r, 4093+r.Intn(4), 4098)
		for range 8 {
			var code int
			b, code = checkReceive(t, b, randomAnswer(r, 4090))
			found[code]++
		}
	}
	for code, least := range map[int]int{impl.OK: 8000, impl.ErrState: 1000, impl.ErrForm: 300, impl.ErrOrder: 1000, impl.ErrAgain: 500, impl.ErrFull: 30, impl.ErrBad: 400} {
		if found[code] < least {
			t.Errorf("only %d wires have the code %d", found[code], code)
		}
	}
}

// TestModelOfAnswers receives lists of wires, which often end with a code.
func TestModelOfAnswers(t *testing.T) {
	r := rand.New(rand.NewSource(113))
	found := map[int]int{}
	for range 4000 {
		var wires []impl.Wire
		for range r.Intn(12) {
			wires = append(wires, randomAnswer(r, 1))
		}
		found[checkReceiveAll(t, wires)]++
	}
	for code, least := range map[int]int{impl.OK: 800, impl.ErrForm: 150, impl.ErrOrder: 500, impl.ErrAgain: 150} {
		if found[code] < least {
			t.Errorf("only %d lists have the code %d", found[code], code)
		}
	}
}

// TestEveryAnswer receives every wire of up to three parcels of a small set in
// boxes that have all, some or none of them, and up to MaxList Ids.
func TestEveryAnswer(t *testing.T) {
	set := []impl.Parcel{parcel(1, 0, "{}"), parcel(1, 0, `{"a":1}`), parcel(2, 0, "{}"), parcel(3, 0, "{}"), parcel(3, 0, `{"a":1}`), parcel(4, 0, "{}")}
	first := []stored{{1, 5, "{}"}, {2, 999999, "{}"}, {9, 1, ""}}
	var boxes []impl.Box
	for n := range 4 {
		boxes = append(boxes, box(first[:n]...))
	}
	for n := 4093; n <= 4096; n++ {
		list := slices.Clone(first)
		for id := 10; len(list) < n; id++ {
			list = append(list, stored{id, 1, "{}"})
		}
		boxes = append(boxes, box(list...))
	}
	found := map[int]int{}
	lists := [][]impl.Parcel{nil}
	for n := range impl.MaxBatch + 1 {
		var longer [][]impl.Parcel
		for _, list := range lists {
			for _, b := range boxes {
				_, code := checkReceive(t, b, taught(list...))
				found[code]++
			}
			for _, x := range set {
				longer = append(longer, append(slices.Clone(list), x))
			}
		}
		if lists = longer; len(lists) != power(6, n+1) {
			t.Fatalf("%d lists", len(lists))
		}
	}
	if len(found) != 3 || found[impl.OK] < 300 || found[impl.ErrAgain] < 300 || found[impl.ErrFull] < 100 {
		t.Errorf("the codes are found so often: %v", found)
	}
}

// keeper knows what a receiver must have from violations, the Status of each
// wire and whether its answer was lost.
type keeper struct {
	pipe   impl.Pipe
	body   map[int]string
	times  map[int]int
	losses map[int]int
	done   map[int]bool
	order  []int
	box    impl.Box
}

func newKeeper() *keeper {
	return &keeper{pipe: impl.NewPipe(), body: map[int]string{}, times: map[int]int{}, losses: map[int]int{}, done: map[int]bool{}}
}

func (x *keeper) do(t *testing.T, e impl.Event) {
	t.Helper()
	before := x.pipe
	p, _ := taken(t, before, e)
	x.pipe = p
	if p.Next > before.Next {
		x.body[before.Next] = modelTold(e.Violation).text()
	}
	if len(p.Wires) > len(before.Wires) {
		x.sent(t, p.Wires[len(p.Wires)-1], e)
	}
}

// sent: no report of a wire was answered before with a success that was not
// lost; the receiver has those of a wire with a success.
func (x *keeper) sent(t *testing.T, w impl.Wire, e impl.Event) {
	t.Helper()
	for _, id := range w.Ids {
		if x.done[id] {
			t.Errorf("%d is sent again: %+v", id, w)
		}
		if e.Status < 200 || e.Status > 299 {
			continue
		}
		if x.times[id]++; x.times[id] == 1 {
			x.order = append(x.order, id)
		}
		if e.Lost {
			x.losses[id]++
		} else {
			x.done[id] = true
		}
		if x.times[id] > x.losses[id]+1 {
			t.Errorf("%d was answered %d times, of which %d were lost", id, x.times[id], x.losses[id])
		}
	}
	if e.Status < 200 || e.Status > 299 {
		refusesAnswer(t, x.box, w, impl.ErrState)
		return
	}
	receives(t, x.box, w, x.expected())
	x.box = x.expected()
}

func (x *keeper) expected() impl.Box {
	var list []stored
	for _, id := range x.order {
		list = append(list, stored{id, x.times[id], x.body[id]})
	}
	return box(list...)
}

// check: from all wires, a receiver has every report once, among them all that
// are delivered.
func (x *keeper) check(t *testing.T) {
	t.Helper()
	receivesAll(t, x.expected(), x.pipe.Wires...)
	for _, id := range x.order {
		has(t, x.box, stored{id, x.times[id], x.body[id]})
	}
	hasNot(t, x.box, x.pipe.Next, impl.ErrNone)
	hasIds(t, x.pipe, impl.FaDelivered, slices.Sorted(maps.Keys(x.done))...)
	for id := range x.done {
		if x.times[id] != x.losses[id]+1 {
			t.Errorf("%d is delivered, but was answered %d times, of which %d were lost", id, x.times[id], x.losses[id])
		}
	}
}

// lossy makes an event of sending a success more often, and its answer a lost
// one.
func lossy(r *rand.Rand, e impl.Event) impl.Event {
	if e.Kind == impl.EvSend && r.Intn(3) > 0 {
		e.Status, e.Lost = 200+r.Intn(100), r.Intn(4) > 0
	}
	return e
}

// TestPromise11 does long sequences of events with many answers that are lost.
func TestPromise11(t *testing.T) {
	r := rand.New(rand.NewSource(114))
	times := [5]int{}
	undelivered := 0
	for i := range 300 {
		x := newKeeper()
		x.pipe.Now = []int{0, 0, impl.MaxNow - 200}[r.Intn(3)]
		for k, e := range eventsOf(r, 150, i%4 > 0)[i%3:] {
			if i%2 == 0 {
				e = colorful(r, e)
			}
			if i%5 > 0 {
				e = lossy(r, e)
			}
			x.do(t, e)
			if k%30 == i%30 {
				x.check(t)
			}
			if t.Failed() {
				t.Fatalf("after %s", briefEvent(e))
			}
		}
		x.check(t)
		for id, n := range x.times {
			times[n]++
			if !x.done[id] {
				undelivered++
			}
		}
	}
	if times[1] < 1000 || times[2] < 300 || times[3] < 100 || times[4] < 30 || undelivered < 500 {
		t.Errorf("reports that were received so often: %v, not delivered: %d", times, undelivered)
	}
}

// TestRunsAreReceived: the wires of runs are received once more.
func TestRunsAreReceived(t *testing.T) {
	r := rand.New(rand.NewSource(115))
	found := 0
	for i := range 300 {
		events := eventsOf(r, 60, i%4 > 0)
		x := newKeeper()
		for k := range events {
			events[k] = lossy(r, events[k])
			x.do(t, events[k])
		}
		p, _, _ := impl.RunEvents(events)
		receivesAll(t, x.expected(), p.Wires...)
		// What has been received is received again with the same bodies.
		twice, code := impl.ReceiveAll(append(slices.Clone(p.Wires), p.Wires...))
		for k := range twice.Times {
			twice.Times[k] /= 2
		}
		if !equalBoxes(twice, x.expected()) || code != impl.OK || t.Failed() {
			t.Fatalf("%s: received twice: %s, %d", briefPipe(p), briefBox(twice), code)
		}
		found += len(x.order)
	}
	if found < 1000 {
		t.Errorf("only %d reports", found)
	}
}

// TestManyWiresAreReceived: how often a report was received is told by its fate
// and the answers that were lost.
func TestManyWiresAreReceived(t *testing.T) {
	r := rand.New(rand.NewSource(116))
	p := done(t, impl.NewPipe(), settled()...)
	for range 900 {
		e := sendEvent("csp", r.Intn(100), 200)
		e.Lost = r.Intn(3) > 0
		p, _, _ = impl.DoEvent(p, violationEvent(like(func(v *impl.Violation) { v.Line = r.Intn(20) })))
		p, _, _ = impl.DoEvent(p, e)
		p, _, _ = impl.DoEvent(p, tickEvent(1+r.Intn(9)))
	}
	b, code := impl.ReceiveAll(p.Wires)
	if code != impl.OK || !impl.BoxOK(b) || len(p.Wires) < 300 || len(b.Ids) < 300 {
		t.Fatalf("%d wires: %s, code %d", len(p.Wires), briefBox(b), code)
	}
	want := map[int]int{}
	for _, w := range p.Wires {
		for _, id := range w.Ids {
			if w.Lost {
				want[id]++
			}
		}
	}
	delivered, _ := impl.IdsOf(p, impl.FaDelivered)
	for _, id := range delivered {
		want[id]++
	}
	for i, id := range b.Ids {
		if b.Times[i] != want[id] {
			t.Errorf("%d was received %d times, not %d", id, b.Times[i], want[id])
		}
		delete(want, id)
	}
	if len(want) > 0 {
		t.Errorf("not received: %v", want)
	}
}
