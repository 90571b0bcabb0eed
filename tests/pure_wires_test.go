package tests

import (
	"fmt"
	"math"
	"math/rand"
	"runtime"
	"slices"
	"strings"
	"testing"
	"unsafe"

	"loop.example/g00779/impl"
)

// hardParcels are parcels that are valid, invalid, or enormous.
func hardParcels() []impl.Parcel {
	r := rand.New(rand.NewSource(19))
	long := strings.Repeat("a", 1<<20)
	list := append(parcels(4),
		impl.Parcel{}, parcel(math.MinInt, math.MinInt, "{}"), parcel(math.MaxInt, math.MaxInt, "{}"), parcel(1, math.MinInt, "{}"), parcel(1, math.MaxInt, "{}"),
		parcel(1, 0, long), parcel(1, 0, `{"a":"`+long+`"}`), parcel(1, 0, strings.Repeat("[", 1<<20)), parcel(1, 0, strings.Repeat(`{"a":`, 1000)), parcel(1, 0, strings.Repeat("{", 8000)),
		parcel(1000000, 1000000, bulky(8000)), parcel(1, 0, bulky(8001)), parcel(1, 0, "{ }"), parcel(1, 0, "\xff"), parcel(1, 0, `{},"id":1`),
	)
	list = append(list, someChanged(r, 300, randomParcel, changedParcel)...)
	for i, x := range list {
		list[i].Body = strings.Clone(x.Body)
	}
	return list
}

// hardParcelLists are lists of these parcels, with more behind them in the same
// memory.
func hardParcelLists() [][]impl.Parcel {
	r := rand.New(rand.NewSource(20))
	all := hardParcels()
	lists := [][]impl.Parcel{nil, {}, all[:4], make([]impl.Parcel, 4096), make([]impl.Parcel, 4097), make([]impl.Parcel, 1<<16)}
	for i := range all {
		lists = append(lists, all[i:i+1], all[max(0, i-2):i])
	}
	for range 200 {
		lists = append(lists, append(randomParcels(r), impl.Parcel{}, parcel(1, 0, "spare")))
	}
	for i, list := range lists {
		list = slices.Clone(list)
		for k := range list {
			list[k].Body = strings.Clone(list[k].Body)
		}
		lists[i] = append(list, parcel(7, 7, "spare"), impl.Parcel{})[:len(list)]
	}
	return lists
}

// hardSentTexts are texts of parcels, changed ones, and others.
func hardSentTexts() []string {
	r := rand.New(rand.NewSource(21))
	texts := hardTexts()
	for _, v := range jsonErrors {
		texts = append(texts, v.text)
	}
	for n := range 6 {
		texts = append(texts, sentText(parcels(n)...), sentText(parcels(n)...)+strings.Repeat(" ", 60000), sentText(parcels(n)...)+strings.Repeat(" ", 70000))
	}
	for i := range 300 {
		parts := jsonParts(randomSent(r))
		texts = append(texts, strings.Join(parts, ""), spelled(r, parts))
		if i%3 == 0 {
			texts = append(texts, misspelled(r, parts))
		}
	}
	for i, text := range texts {
		texts[i] = strings.Clone(text)
	}
	return texts
}

// hardWires are wires with these texts and with Ids that are mostly those of
// their parcels; behind the Ids there are more in the same memory.
func hardWires() []impl.Wire {
	list := []impl.Wire{{}, {Ids: make([]int, 4096)}, {Ids: make([]int, 4097), Body: "[]"}, {Ids: make([]int, 1<<16)}, {Body: "[]", Group: strings.Repeat("a", 1<<20), Url: strings.Repeat("a", 1<<20), At: math.MinInt, Status: math.MaxInt}}
	for i, text := range hardSentTexts() {
		found, _ := modelParcels(text)
		w := impl.Wire{Ids: idsOf(found), Body: text}
		otherFields[i%len(otherFields)](&w)
		if i%7 == 0 {
			w.Ids = append(w.Ids, 1)
		}
		list = append(list, w)
	}
	for i, w := range list {
		list[i].Ids = append(slices.Clone(w.Ids), 1, 2, 3)[:len(w.Ids)]
	}
	return list
}

// wireCalls returns a call of every function of chapter 11 for every hard
// argument.
func wireCalls() []func() string {
	var list []func() string
	for _, x := range hardParcels() {
		list = append(list, func() string { return fmt.Sprint(impl.ParcelOK(x)) })
	}
	for _, some := range hardParcelLists() {
		list = append(list, func() string { s, code := impl.ParcelsText(some); return fmt.Sprint(s, code) })
	}
	for _, text := range hardSentTexts() {
		list = append(list, func() string { found, code := impl.ReadParcels(text); return fmt.Sprint(found, code) })
	}
	for _, w := range hardWires() {
		list = append(list, func() string { found, code := impl.ParcelsOf(w); return fmt.Sprint(found, code) })
	}
	return list
}

// TestWiresUnchanged: parcels, texts and wires are the same after every call,
// and so is what their slices do not use.
func TestWiresUnchanged(t *testing.T) {
	for _, x := range hardParcels() {
		before := parcel(x.Id, x.Age, strings.Clone(x.Body))
		if impl.ParcelOK(x); x != before {
			t.Errorf("%.300q was changed", fmt.Sprint(before))
		}
	}
	for _, list := range hardParcelLists() {
		before := slices.Clone(list[:cap(list)])
		for i, x := range before {
			before[i].Body = strings.Clone(x.Body)
		}
		if impl.ParcelsText(list); !slices.Equal(list[:cap(list)], before) {
			t.Errorf("%s were changed", briefParcels(before))
		}
	}
	for _, text := range hardSentTexts() {
		before := strings.Clone(text)
		if impl.ReadParcels(text); text != before {
			t.Errorf("%.300q was changed", before)
		}
	}
	for _, w := range hardWires() {
		before := w
		before.Group, before.Url, before.Body = strings.Clone(w.Group), strings.Clone(w.Url), strings.Clone(w.Body)
		before.Ids = slices.Clone(w.Ids[:cap(w.Ids)])
		impl.ParcelsOf(w)
		if w.Ids = w.Ids[:cap(w.Ids)]; !equalWires(w, before) {
			t.Errorf("%.300q was changed", fmt.Sprint(before))
		}
	}
}

// overlap reports whether two texts have bytes at the same places.
func overlap(a, b string) bool {
	if a == "" || b == "" {
		return false
	}
	x, y := uintptr(unsafe.Pointer(unsafe.StringData(a))), uintptr(unsafe.Pointer(unsafe.StringData(b)))
	return x < y+uintptr(len(b)) && y < x+uintptr(len(a))
}

// TestParcelsAreNew: no parcels share memory with the text, with other parcels
// of the same text, or among themselves.
func TestParcelsAreNew(t *testing.T) {
	found := 0
	for _, w := range hardWires() {
		seen := map[any]bool{}
		for range 2 {
			read, _ := impl.ReadParcels(w.Body)
			sent, _ := impl.ParcelsOf(w)
			for _, list := range [][]impl.Parcel{read, sent} {
				for _, place := range allPlaces(list) {
					if seen[place] {
						t.Fatalf("parcels of %.300q share memory", w.Body)
					}
					seen[place] = true
					found++
				}
				for i, x := range list {
					others := append(list[:i:i], list[i+1:]...)
					if overlap(x.Body, w.Body) || slices.ContainsFunc(others, func(y impl.Parcel) bool { return overlap(x.Body, y.Body) }) {
						t.Fatalf("a body of %.300q shares memory", w.Body)
					}
				}
			}
		}
	}
	if found < 1000 {
		t.Errorf("only %d parcels", found)
	}
}

func TestTextsOfParcelsAreNew(t *testing.T) {
	found := 0
	for _, list := range hardParcelLists() {
		a, code := impl.ParcelsText(list)
		b, _ := impl.ParcelsText(list)
		for _, x := range list {
			if overlap(x.Body, a) || overlap(a, b) {
				t.Fatalf("a text of %s shares memory", briefParcels(list))
			}
		}
		if code == impl.OK {
			found++
		}
	}
	if found < 200 {
		t.Errorf("only %d texts", found)
	}
}

// TestChangesOfParcels: a change of a result is not seen in a wire, nor one of
// a wire or of a list in a result.
func TestChangesOfParcels(t *testing.T) {
	for n := range impl.MaxBatch + 1 {
		want := parcels(n)
		w := impl.Wire{Ids: append(idsOf(want), 9)[:n], Body: sentText(want...)}
		first, _ := impl.ParcelsOf(w)
		second, _ := impl.ParcelsOf(w)
		read, _ := impl.ReadParcels(w.Body)
		fill(second, parcel(-1, -1, "changed"))
		fill(read, parcel(-1, -1, "changed"))
		if !slices.Equal(first, want) || !slices.Equal(w.Ids, idsOf(want)) {
			t.Errorf("a change of parcels is seen in %s", briefParcels(first))
		}
		takesParcels(t, w, want...)
		fill(w.Ids, -1)
		if !slices.Equal(first, want) {
			t.Errorf("%s were changed with a wire", briefParcels(first))
		}
		list := parcels(n)
		s, _ := impl.ParcelsText(list)
		fill(list, parcel(-1, -1, "changed"))
		if s != sentText(want...) {
			t.Errorf("%q was changed with its parcels", s)
		}
	}
}

// TestWiresEnd: nothing that a call started goes on after it.
func TestWiresEnd(t *testing.T) {
	before := runtime.NumGoroutine()
	for _, list := range hardParcelLists() {
		impl.ParcelsText(list)
	}
	for _, w := range hardWires() {
		impl.ReadParcels(w.Body)
		impl.ParcelsOf(w)
	}
	noneGoesOn(t, before)
}
