package tests

import (
	"fmt"
	"math"
	"math/rand"
	"runtime"
	"slices"
	"strings"
	"testing"

	"loop.example/g00779/impl"
)

// apartBox returns a copy of b that shares nothing with it, with more behind
// its lists in the same memory.
func apartBox(b impl.Box) impl.Box {
	b.Ids = append(slices.Clone(b.Ids), 2000, 0)[:len(b.Ids)]
	b.Times = append(slices.Clone(b.Times), 5, 0)[:len(b.Times)]
	b.Bodies = append(slices.Clone(b.Bodies), "spare", "")[:len(b.Bodies)]
	cloneTexts(cells(b.Bodies))
	return b
}

// wholeBox returns a copy of b in which unused capacity is used.
func wholeBox(b impl.Box) impl.Box {
	return copiedBox(impl.Box{Ids: b.Ids[:cap(b.Ids)], Times: b.Times[:cap(b.Times)], Bodies: b.Bodies[:cap(b.Bodies)]})
}

// boxPlaces collects the places of everything in the lists of b, their unused
// capacity and the bytes of its bodies too.
func boxPlaces(b impl.Box) []any {
	list := slices.Concat(allPlaces(b.Ids), allPlaces(b.Times), allPlaces(b.Bodies))
	for _, body := range b.Bodies {
		list = append(list, textPlaces(body)...)
	}
	return list
}

func changeBox(b impl.Box) {
	fill(b.Ids, -1)
	fill(b.Times, -1)
	fill(b.Bodies, "changed")
}

// hardBoxes are boxes that are valid, invalid, or enormous.
func hardBoxes() []impl.Box {
	r := rand.New(rand.NewSource(22))
	long := strings.Repeat("a", 1<<20)
	boxes := []impl.Box{
		{}, box(stores(1)...), box(stores(3)...), box(stores(4095)...), box(stores(4096)...), box(stores(4097)...),
		{Ids: make([]int, 1<<16)}, {Times: make([]int, 1<<16)}, {Bodies: make([]string, 1<<16)}, {Ids: make([]int, 1<<16), Times: make([]int, 1<<16), Bodies: make([]string, 1<<16)},
		box(stored{math.MinInt, math.MinInt, ""}), box(stored{math.MaxInt, math.MaxInt, ""}), box(stored{1, math.MinInt, ""}), box(stored{1, math.MaxInt, ""}), box(stored{3, 1, long}),
		box(stored{3, 1000000, "{}"}, stored{10, 1000000, parcels(2)[1].Body}), box(stored{3, 1, bulky(8000)}), box(stored{3, 1, ""}), box(stored{3, 1, "\xff"}, stored{3, 1, "\xff"}),
	}
	boxes = append(boxes, someChanged(r, 60, randomBox, changedBox)...)
	for i, b := range boxes {
		boxes[i] = apartBox(b)
	}
	return boxes
}

func apartWire(w impl.Wire) impl.Wire {
	w.Ids = append(slices.Clone(w.Ids), 1, 2, 3)[:len(w.Ids)]
	cloneTexts([]*string{&w.Group, &w.Url, &w.Body})
	return w
}

// hardAnswers are wires of which most have a success.
func hardAnswers() []impl.Wire {
	r := rand.New(rand.NewSource(23))
	list := append(answersOfAllCodes(), taught(parcel(3, 0, bulky(8000))), taught(parcel(3, 0, "{}"), parcel(3, 0, "{}")), taught(parcel(3, 0, "{}"), parcel(4, 0, "{}"), parcel(3, 0, `{"a":1}`)))
	for range 60 {
		list = append(list, randomAnswer(r, 1))
	}
	for i, w := range hardWires() {
		if i%80 == 0 {
			w.Status = 200 + i%100
			list = append(list, w)
		}
	}
	for i, w := range list {
		list[i] = apartWire(w)
	}
	return list
}

// hardAnswerLists are lists of such wires, with more behind them in the same
// memory.
func hardAnswerLists() [][]impl.Wire {
	r := rand.New(rand.NewSource(24))
	all := hardAnswers()
	lists := [][]impl.Wire{nil, {}, make([]impl.Wire, 4096), make([]impl.Wire, 4097), make([]impl.Wire, 1<<16), slices.Repeat([]impl.Wire{taught(parcels(3)...)}, 4096)}
	for i := range all {
		lists = append(lists, all[i:i+1], all[max(0, i-3):i])
	}
	for range 100 {
		var list []impl.Wire
		for range r.Intn(9) {
			list = append(list, randomAnswer(r, 1))
		}
		lists = append(lists, list)
	}
	for i := range 20 {
		p, _, _ := impl.RunEvents(eventsOf(r, 60, i%2 == 0))
		lists = append(lists, p.Wires)
	}
	for i, list := range lists {
		list = append(slices.Clone(list), taught(parcel(7, 7, "{}")), impl.Wire{})[:len(list)]
		for k, w := range list {
			list[k] = apartWire(w)
		}
		lists[i] = list
	}
	return lists
}

// wholeAnswers returns a copy of a list in which unused capacity is used.
func wholeAnswers(list []impl.Wire) []impl.Wire {
	list = slices.Clone(list[:cap(list)])
	for i, w := range list {
		list[i].Ids = slices.Clone(w.Ids[:cap(w.Ids)])
		cloneTexts([]*string{&list[i].Group, &list[i].Url, &list[i].Body})
	}
	return list
}

func equalAnswers(a, b []impl.Wire) bool { return slices.EqualFunc(a, b, equalWires) }

// receiverCalls returns a call of every function of chapter 12 for every hard
// argument.
func receiverCalls() []func() string {
	var list []func() string
	boxes, wires := hardBoxes(), hardAnswers()
	for i, b := range boxes {
		other := boxes[(i*7+1)%len(boxes)]
		list = append(list,
			func() string { return fmt.Sprint(impl.BoxOK(b)) },
			func() string { return fmt.Sprint(impl.SameBox(b, b), impl.SameBox(b, other)) },
		)
		for _, id := range append(slices.Clone(hardIds), newest(b.Ids, 3)...) {
			list = append(list,
				func() string { times, code := impl.TimesOf(b, id); return fmt.Sprint(times, code) },
				func() string { body, code := impl.BodyOfId(b, id); return fmt.Sprint(body, code) },
			)
		}
		for k, w := range wires {
			// Of enormous boxes, a few wires are enough.
			if len(b.Ids) > 1000 && k%20 > 0 {
				continue
			}
			list = append(list, func() string { x, code := impl.Receive(b, w); return fmt.Sprint(x, code) })
		}
	}
	for _, wires := range hardAnswerLists() {
		list = append(list, func() string { x, code := impl.ReceiveAll(wires); return fmt.Sprint(x, code) })
	}
	return list
}

// TestBoxesUnchanged: boxes and wires are the same after every call, and so is
// what their slices do not use.
func TestBoxesUnchanged(t *testing.T) {
	wires := hardAnswers()
	sent := wholeAnswers(wires)
	for _, b := range hardBoxes() {
		before := wholeBox(b)
		cloneTexts(cells(before.Bodies))
		impl.BoxOK(b)
		impl.SameBox(b, b)
		impl.SameBox(b, box(stores(3)...))
		impl.SameBox(box(stores(3)...), b)
		for _, id := range append(slices.Clone(hardIds), newest(b.Ids, 3)...) {
			impl.TimesOf(b, id)
			impl.BodyOfId(b, id)
		}
		for _, w := range wires {
			impl.Receive(b, w)
		}
		if !equalBoxes(wholeBox(b), before) {
			t.Errorf("%s was changed", briefBox(before))
		}
	}
	if !equalAnswers(wholeAnswers(wires), sent) {
		t.Error("a wire was changed")
	}
	for _, list := range hardAnswerLists() {
		before := wholeAnswers(list)
		impl.ReceiveAll(list)
		if !equalAnswers(wholeAnswers(list), before) {
			t.Errorf("a list of %d wires was changed", len(list))
		}
	}
}

// TestBoxesAreNew: no box that is returned shares memory with an argument or
// with another one, nor its lists and bodies among themselves.
func TestBoxesAreNew(t *testing.T) {
	codes := map[int]bool{}
	wires := hardAnswers()
	for _, b := range hardBoxes() {
		if len(b.Ids) > 10 && len(b.Ids) != 4096 {
			continue
		}
		seen := map[any]bool{}
		seePlaces(t, b, seen)
		for k, w := range wires {
			if len(b.Ids) > 10 && k%9 > 0 {
				continue
			}
			x, code := impl.Receive(b, w)
			codes[code] = true
			seePlaces(t, x, seen)
			apartFromWires(t, x, w)
		}
		for _, id := range b.Ids {
			body, _ := impl.BodyOfId(b, id)
			if slices.ContainsFunc(b.Bodies, func(s string) bool { return overlap(s, body) }) {
				t.Fatalf("the body of %d shares memory: %s", id, briefBox(b))
			}
		}
	}
	for _, code := range []int{impl.OK, impl.ErrBad, impl.ErrForm, impl.ErrRange, impl.ErrMany, impl.ErrFull, impl.ErrSize, impl.ErrKind, impl.ErrDeep, impl.ErrAgain, impl.ErrOrder, impl.ErrState} {
		if !codes[code] {
			t.Errorf("no wire has the code %d", code)
		}
	}
	for _, list := range hardAnswerLists() {
		seen := map[any]bool{}
		for range 2 {
			x, _ := impl.ReceiveAll(list)
			seePlaces(t, x, seen)
			apartFromWires(t, x, list...)
		}
	}
}

// seePlaces adds the places of a box to those that are seen.
func seePlaces(t *testing.T, b impl.Box, seen map[any]bool) {
	t.Helper()
	for _, place := range boxPlaces(b) {
		if seen[place] {
			t.Fatalf("lists or bodies share memory: %s", briefBox(b))
		}
		seen[place] = true
	}
}

func apartFromWires(t *testing.T, b impl.Box, wires ...impl.Wire) {
	t.Helper()
	ids := map[any]bool{}
	for _, w := range wires {
		for _, place := range allPlaces(w.Ids) {
			ids[place] = true
		}
		for _, body := range newest(b.Bodies, 10) {
			if overlap(body, w.Body) {
				t.Fatalf("a body shares memory with a wire: %s", briefBox(b))
			}
		}
	}
	for _, place := range slices.Concat(allPlaces(b.Ids), allPlaces(b.Times)) {
		if ids[place] {
			t.Fatalf("a list shares memory with a wire: %s", briefBox(b))
		}
	}
}

// TestChangesOfBoxes: a change of a result is not seen in the arguments, nor
// one of an argument in the result.
func TestChangesOfBoxes(t *testing.T) {
	for _, b := range hardBoxes() {
		if len(b.Ids) > 4096 {
			continue
		}
		for _, w := range []impl.Wire{taught(), taught(parcels(3)...), taught(newIds(2)...), taught(otherBodies(2)...), answered(500, parcels(3)...), {Status: 200}, taught(parcels(1)[0], newIds(1)[0], otherBodies(2)[1])} {
			argument, sent := apartBox(b), apartWire(w)
			want, _ := impl.Receive(b, w)
			x, _ := impl.Receive(argument, sent)
			changeBox(x)
			if !equalBoxes(argument, b) || !equalWires(sent, w) {
				t.Fatalf("a change of a result changed %s or %s", briefBox(b), briefWire(w))
			}
			x, _ = impl.Receive(argument, sent)
			changeBox(argument)
			fill(sent.Ids, -1)
			if !equalBoxes(x, want) {
				t.Fatalf("a change of %s or %s changed a result", briefBox(b), briefWire(w))
			}
		}
	}
	for _, list := range hardAnswerLists() {
		want, _ := impl.ReceiveAll(list)
		x, _ := impl.ReceiveAll(list)
		changeBox(x)
		if again, _ := impl.ReceiveAll(list); !equalBoxes(again, want) {
			t.Fatalf("a change of a result is seen in %s", briefBox(again))
		}
	}
}

// TestOrderOfBoxes: whatever order a box is looked at in, results keep the one
// that the chapter gives.
func TestOrderOfBoxes(t *testing.T) {
	b := box(stores(50)...)
	want := append(stores(50), stored{newIds(2)[0].Id, 1, newIds(2)[0].Body}, stored{newIds(2)[1].Id, 1, newIds(2)[1].Body})
	var wires []impl.Wire
	var all []stored
	for i, x := range parcels(50) {
		wires = append(wires, taught(x))
		all = append(all, stored{x.Id, 1, parcels(50)[i].Body})
	}
	for range 300 {
		receives(t, b, taught(newIds(2)...), box(want...))
		refusesAnswer(t, b, taught(newIds(1)[0], otherBodies(1)[0]), impl.ErrAgain)
		receivesAll(t, box(all...), wires...)
	}
}

// TestReceiversEnd: nothing that a call started goes on after it.
func TestReceiversEnd(t *testing.T) {
	before := runtime.NumGoroutine()
	for _, list := range hardAnswerLists() {
		impl.ReceiveAll(list)
	}
	for _, b := range hardBoxes() {
		impl.BoxOK(b)
		impl.SameBox(b, b)
		impl.TimesOf(b, 3)
		impl.BodyOfId(b, 3)
		impl.Receive(b, taught(parcels(3)...))
	}
	noneGoesOn(t, before)
}
