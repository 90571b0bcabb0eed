package tests

import (
	"fmt"
	"maps"
	"math"
	"slices"
	"strings"
	"testing"

	"loop.example/g00779/impl"
)

// stored is what a box has for one Id.
type stored struct {
	id, times int
	body      string
}

func box(list ...stored) impl.Box {
	var b impl.Box
	for _, x := range list {
		b.Ids, b.Times, b.Bodies = append(b.Ids, x.id), append(b.Times, x.times), append(b.Bodies, x.body)
	}
	return b
}

// stores returns what a box may have for n Ids; these and the bodies are those
// of n parcels.
func stores(n int) []stored {
	var list []stored
	for i, x := range parcels(n) {
		list = append(list, stored{x.Id, 1 + 10*i, x.Body})
	}
	return list
}

// newIds and otherBodies return n parcels whose Ids are not those of stores, and
// n whose bodies are not.
func newIds(n int) []impl.Parcel {
	list := parcels(n)
	for i := range list {
		list[i].Id++
	}
	return list
}

func otherBodies(n int) []impl.Parcel {
	list := parcels(n)
	for i := range list {
		list[i].Body = fmt.Sprintf(`{"other":%d}`, i)
	}
	return list
}

func answered(status int, list ...impl.Parcel) impl.Wire {
	return impl.Wire{Status: status, Ids: idsOf(list), Body: sentText(list...)}
}

func taught(list ...impl.Parcel) impl.Wire { return answered(200, list...) }

// equalBoxes compares without the program.
func equalBoxes(a, b impl.Box) bool {
	return slices.Equal(a.Ids, b.Ids) && slices.Equal(a.Times, b.Times) && slices.Equal(a.Bodies, b.Bodies)
}

func isNoBox(b impl.Box) bool { return equalBoxes(b, impl.Box{}) }

func copiedBox(b impl.Box) impl.Box {
	return impl.Box{Ids: slices.Clone(b.Ids), Times: slices.Clone(b.Times), Bodies: slices.Clone(b.Bodies)}
}

func briefBox(b impl.Box) string {
	return fmt.Sprintf("a box of %d Ids %v, %d Times %v, %d Bodies %.200q",
		len(b.Ids), newest(b.Ids, 5), len(b.Times), newest(b.Times, 5), len(b.Bodies), fmt.Sprint(newest(b.Bodies, 5)))
}

func briefWire(w impl.Wire) string { return fmt.Sprintf("%.300q", fmt.Sprintf("%+v", w)) }

func receives(t *testing.T, b impl.Box, w impl.Wire, want impl.Box) {
	t.Helper()
	if x, code := impl.Receive(b, w); !equalBoxes(x, want) || code != impl.OK {
		t.Errorf("Receive(%s, %s) = %s, %d, not %s", briefBox(b), briefWire(w), briefBox(x), code, briefBox(want))
	}
}

// refusesAnswer checks that a valid box is returned with a code as it is.
func refusesAnswer(t *testing.T, b impl.Box, w impl.Wire, want int) {
	t.Helper()
	if x, code := impl.Receive(b, w); !equalBoxes(x, b) || code != want {
		t.Errorf("Receive(%s, %s) = %s, %d, not unchanged with the code %d", briefBox(b), briefWire(w), briefBox(x), code, want)
	}
}

func receivesAll(t *testing.T, want impl.Box, wires ...impl.Wire) {
	t.Helper()
	if x, code := impl.ReceiveAll(wires); !equalBoxes(x, want) || code != impl.OK {
		t.Errorf("ReceiveAll(%d wires %.1000q) = %s, %d, not %s", len(wires), fmt.Sprintf("%+v", newest(wires, 5)), briefBox(x), code, briefBox(want))
	}
}

func refusesAnswers(t *testing.T, want int, wires ...impl.Wire) {
	t.Helper()
	if x, code := impl.ReceiveAll(wires); !isNoBox(x) || code != want {
		t.Errorf("ReceiveAll(%d wires %.1000q) = %s, %d, not the code %d", len(wires), fmt.Sprintf("%+v", newest(wires, 5)), briefBox(x), code, want)
	}
}

func has(t *testing.T, b impl.Box, want stored) {
	t.Helper()
	if times, code := impl.TimesOf(b, want.id); times != want.times || code != impl.OK {
		t.Errorf("TimesOf(%s, %d) = %d, %d, not %d", briefBox(b), want.id, times, code, want.times)
	}
	if body, code := impl.BodyOfId(b, want.id); body != want.body || code != impl.OK {
		t.Errorf("BodyOfId(%s, %d) = %.100q, %d, not %.100q", briefBox(b), want.id, body, code, want.body)
	}
}

func hasNot(t *testing.T, b impl.Box, id, want int) {
	t.Helper()
	if times, code := impl.TimesOf(b, id); times != 0 || code != want {
		t.Errorf("TimesOf(%s, %d) = %d, %d, not the code %d", briefBox(b), id, times, code, want)
	}
	if body, code := impl.BodyOfId(b, id); body != "" || code != want {
		t.Errorf("BodyOfId(%s, %d) = %.100q, %d, not the code %d", briefBox(b), id, body, code, want)
	}
}

var strangeIds = []int{math.MinInt, -1000000, -1, 0, 1, 2, 1000000, 1000001, 1<<32 + 3, math.MaxInt}

// isBox checks that b is valid for every function: all that it has is found in
// it, and wires without parcels leave it as it is.
func isBox(t *testing.T, b impl.Box) {
	t.Helper()
	if !impl.BoxOK(b) || !impl.SameBox(b, copiedBox(b)) || !impl.SameBox(copiedBox(b), b) {
		t.Errorf("%s is valid: %v, %v", briefBox(b), impl.BoxOK(b), impl.SameBox(b, copiedBox(b)))
	}
	receives(t, b, taught(), b)
	refusesAnswer(t, b, answered(500, parcels(3)...), impl.ErrState)
	for i, id := range b.Ids {
		// In a large box, the first and the last ones are enough.
		if i < 20 || i >= len(b.Ids)-5 {
			has(t, b, stored{id, b.Times[i], b.Bodies[i]})
		}
	}
	for _, id := range strangeIds {
		if !slices.Contains(b.Ids, id) {
			hasNot(t, b, id, impl.ErrNone)
		}
	}
}

// noBox checks that b is invalid for every function, whatever else is wrong.
func noBox(t *testing.T, b impl.Box) {
	t.Helper()
	if impl.BoxOK(b) {
		t.Errorf("BoxOK: %s is invalid", briefBox(b))
	}
	if impl.SameBox(b, b) || impl.SameBox(b, impl.Box{}) || impl.SameBox(impl.Box{}, b) || impl.SameBox(b, box(stores(3)...)) {
		t.Errorf("SameBox: %s is invalid", briefBox(b))
	}
	for _, w := range answersOfAllCodes() {
		if x, code := impl.Receive(b, w); !isNoBox(x) || code != impl.ErrBad {
			t.Errorf("Receive(%s, %s) = %s, %d, not the code %d", briefBox(b), briefWire(w), briefBox(x), code, impl.ErrBad)
		}
	}
	for _, id := range append(slices.Clone(strangeIds), newest(b.Ids, 5)...) {
		hasNot(t, b, id, impl.ErrBad)
	}
}

// brokenAnswers are wires with success that have no parcels, one for each code
// and some more.
func brokenAnswers() map[string]impl.Wire {
	three := taught(parcels(3)...)
	return map[string]impl.Wire{
		"bad: a long body":      {Status: 200, Ids: three.Ids, Body: three.Body + strings.Repeat(" ", impl.MaxText)},
		"bad: many Ids":         {Status: 200, Ids: make([]int, impl.MaxList+1), Body: three.Body},
		"form: no text":         {Status: 200},
		"form: half a text":     {Status: 200, Ids: three.Ids, Body: three.Body[:len(three.Body)-1]},
		"form: no items":        {Status: 200, Ids: three.Ids, Body: "[1,2,3]"},
		"form: a strange Id":    taught(parcel(3, 0, "{}"), parcel(0, 0, "{}")),
		"range: a large number": {Status: 200, Ids: three.Ids, Body: "[1000000000]"},
		"many: thirteen items":  {Status: 200, Ids: three.Ids, Body: "[" + joined(13, "1") + "]"},
		"many: four parcels":    taught(parcels(4)...),
		"size: a long name":     taught(parcel(3, 0, `{"`+strings.Repeat("a", 121)+`":1}`)),
		"kind: no list":         {Status: 200, Ids: []int{7}, Body: itemText(goodMembers()...)},
		"deep: a deep body":     taught(parcel(3, 0, `{"a":{"b":{"c":1}}}`)),
		"again: a name twice":   taught(parcel(3, 0, `{"a":1,"a":2}`)),
		"order: no Ids":         {Status: 200, Body: three.Body},
		"order: fewer Ids":      {Status: 200, Ids: three.Ids[:2], Body: three.Body},
		"order: other Ids":      {Status: 200, Ids: []int{3, 10, 18}, Body: three.Body},
		"order: Ids swapped":    {Status: 200, Ids: []int{10, 3, 17}, Body: three.Body},
	}
}

// codeNamed returns the code whose word begins a name.
func codeNamed(name string) int {
	word, _, _ := strings.Cut(name, ":")
	return impl.CodeOf(word)
}

func answersOfAllCodes() []impl.Wire {
	list := []impl.Wire{
		{}, taught(), taught(parcels(1)...), taught(parcels(3)...), taught(newIds(2)...), taught(otherBodies(2)...), answered(199, parcels(3)...), answered(300), answered(math.MinInt),
	}
	broken := brokenAnswers()
	for _, name := range slices.Sorted(maps.Keys(broken)) {
		list = append(list, broken[name])
	}
	return list
}

// inEachPlace calls see with boxes of up to four Ids of which one is x.
func inEachPlace(x stored, see func(impl.Box)) {
	for n := range 4 {
		for i := range n + 1 {
			see(box(slices.Insert(stores(n), i, x)...))
		}
	}
}

func TestBoxNumbers(t *testing.T) {
	for _, n := range []int{1, 2, 500, 999999, 1000000} {
		inEachPlace(stored{n, 5, "{}"}, func(b impl.Box) { isBox(t, b) })
		inEachPlace(stored{8, n, "{}"}, func(b impl.Box) { isBox(t, b) })
		inEachPlace(stored{n, n, "{}"}, func(b impl.Box) { isBox(t, b) })
	}
	for _, n := range []int{math.MinInt, -1000000, -1, 0, 1000001, 999999999, 1 << 32, 1<<32 + 1, math.MaxInt} {
		inEachPlace(stored{n, 5, "{}"}, func(b impl.Box) { noBox(t, b) })
		inEachPlace(stored{8, n, "{}"}, func(b impl.Box) { noBox(t, b) })
		inEachPlace(stored{n, n, "{}"}, func(b impl.Box) { noBox(t, b) })
	}
}

// TestBoxBodies: a body of a box has any bytes, or none.
func TestBoxBodies(t *testing.T) {
	for _, body := range []string{"", " ", "x", "{", "[]", "1", "\x00", "\xff\xfe", "{ }", `{"a":1,"a":1}`, bulky(8000), strings.Repeat("\x80", 7999), strings.Repeat("{", 8000), strings.Repeat("\u00e9", 4000)} {
		inEachPlace(stored{8, 5, body}, func(b impl.Box) { isBox(t, b) })
	}
	for c := range 256 {
		isBox(t, box(stored{8, 5, string([]byte{byte(c)})}))
	}
	for _, n := range []int{8001, 8002, 16000, impl.MaxText, impl.MaxText + 1, 1 << 20} {
		inEachPlace(stored{8, 5, strings.Repeat("a", n)}, func(b impl.Box) { noBox(t, b) })
		inEachPlace(stored{8, 5, "{}" + strings.Repeat(" ", n-2)}, func(b impl.Box) { noBox(t, b) })
	}
	noBox(t, box(stored{8, 5, bulky(8001)}))
	isBox(t, box(stored{1, 1, "same"}, stored{2, 1, "same"}, stored{3, 1, ""}, stored{4, 1, ""}))
	// The text of each is long, all together are longer than any text may be.
	long := box(stores(100)...)
	fill(long.Bodies, strings.Repeat("a", 8000))
	isBox(t, long)
}

// TestBoxLists: the three lists have the same length.
func TestBoxLists(t *testing.T) {
	full := box(stores(6)...)
	for ids := range 7 {
		for times := range 7 {
			for bodies := range 7 {
				b := impl.Box{Ids: full.Ids[:ids], Times: full.Times[:times], Bodies: full.Bodies[:bodies]}
				if ids == times && ids == bodies {
					isBox(t, b)
				} else {
					noBox(t, b)
				}
			}
		}
	}
	for _, n := range []int{4095, 4097, 1 << 16} {
		b := box(stores(4096)...)
		b.Times = slices.Repeat([]int{1}, n)
		noBox(t, b)
		b.Times, b.Bodies = b.Times[:min(n, 4096)], make([]string, n)
		noBox(t, b)
	}
	noBox(t, impl.Box{Times: []int{1}})
	noBox(t, impl.Box{Bodies: []string{""}})
	noBox(t, impl.Box{Times: []int{1}, Bodies: []string{""}})
	noBox(t, impl.Box{Times: make([]int, 1<<16), Bodies: make([]string, 1<<16)})
}

// TestBoxIds: no Id is there twice, wherever, also if all else is the same.
func TestBoxIds(t *testing.T) {
	for n := 2; n <= 6; n++ {
		for i := range n {
			for k := range i {
				list := stores(n)
				list[i].id = list[k].id
				noBox(t, box(list...))
				list[i] = list[k]
				noBox(t, box(list...))
			}
		}
	}
	for _, places := range [][2]int{{0, 1}, {0, 4095}, {4094, 4095}, {2000, 3000}} {
		list := stores(4096)
		list[places[1]] = list[places[0]]
		noBox(t, box(list...))
	}
	// In a box, Ids have any order.
	isBox(t, box(stored{9, 1, "a"}, stored{1, 1, "b"}, stored{1000000, 1, "c"}, stored{2, 1, "d"}))
}

func TestBoxSizes(t *testing.T) {
	for _, n := range []int{0, 1, 2, 3, 60, 61, 4095, 4096} {
		isBox(t, box(stores(n)...))
	}
	for _, n := range []int{4097, 4098, 1 << 16} {
		noBox(t, box(stores(n)...))
		noBox(t, impl.Box{Ids: make([]int, n), Times: make([]int, n), Bodies: make([]string, n)})
	}
}

// TestEmptyBoxes: a list that is nil equals an empty one.
func TestEmptyBoxes(t *testing.T) {
	var boxes []impl.Box
	for i := range 8 {
		b := impl.Box{}
		if i&1 > 0 {
			b.Ids = []int{}
		}
		if i&2 > 0 {
			b.Times = make([]int, 0, 5)
		}
		if i&4 > 0 {
			b.Bodies = []string{}
		}
		boxes = append(boxes, b)
	}
	for _, a := range boxes {
		isBox(t, a)
		receives(t, a, taught(parcels(3)...), box(stored{3, 1, parcels(3)[0].Body}, stored{10, 1, parcels(3)[1].Body}, stored{17, 1, parcels(3)[2].Body}))
		for _, b := range boxes {
			if !impl.SameBox(a, b) {
				t.Errorf("SameBox(%#v, %#v)", a, b)
			}
		}
		if impl.SameBox(a, box(stores(1)...)) || impl.SameBox(box(stores(1)...), a) {
			t.Errorf("SameBox(%#v, a box of one Id)", a)
		}
	}
}

// TestSameBox changes a box in one place; each change leaves it valid.
func TestSameBox(t *testing.T) {
	for n := 1; n <= 5; n++ {
		list := stores(n)
		a := box(list...)
		var others []impl.Box
		for i, x := range list {
			for _, y := range []stored{{x.id + 1, x.times, x.body}, {x.id, x.times + 1, x.body}, {x.id, x.times, x.body + " "}, {x.id, x.times, ""}, {x.id + 1, x.times + 1, x.body}} {
				changed := slices.Clone(list)
				changed[i] = y
				others = append(others, box(changed...))
			}
			others = append(others, box(slices.Delete(slices.Clone(list), i, i+1)...), box(slices.Insert(slices.Clone(list), i, stored{8, 1, ""})...))
			for k := range i {
				swapped := slices.Clone(list)
				swapped[i], swapped[k] = swapped[k], swapped[i]
				others = append(others, box(swapped...))
			}
		}
		others = append(others, box(append(list, stored{8, 1, ""})...))
		isBox(t, a)
		for _, b := range others {
			isBox(t, b)
			if impl.SameBox(a, b) || impl.SameBox(b, a) {
				t.Errorf("SameBox(%s, %s)", briefBox(a), briefBox(b))
			}
		}
	}
}

func TestStatesOfAnswers(t *testing.T) {
	b := box(stores(2)...)
	more := box(stored{3, 2, b.Bodies[0]}, stored{10, 12, b.Bodies[1]}, stored{17, 1, parcels(3)[2].Body})
	for status := -10; status <= 1010; status++ {
		if status >= 200 && status <= 299 {
			receives(t, b, answered(status, parcels(3)...), more)
		} else {
			refusesAnswer(t, b, answered(status, parcels(3)...), impl.ErrState)
		}
	}
	for _, status := range []int{math.MinInt, math.MinInt + 200, -299, -200, 1<<32 + 200, 1<<32 + 250, math.MaxInt - 200, math.MaxInt} {
		refusesAnswer(t, b, answered(status, parcels(3)...), impl.ErrState)
	}
	// The state comes first, whatever the wire brings.
	full := box(stores(4096)...)
	for _, status := range []int{math.MinInt, -200, 0, 100, 199, 300, 410, 500, 599, math.MaxInt} {
		for _, w := range answersOfAllCodes() {
			w.Status = status
			refusesAnswer(t, b, w, impl.ErrState)
			refusesAnswer(t, impl.Box{}, w, impl.ErrState)
			receivesAll(t, impl.Box{}, w)
			receivesAll(t, box(stored{3, 1, parcels(1)[0].Body}), w, taught(parcels(1)...), w)
		}
		refusesAnswer(t, full, answered(status, newIds(3)...), impl.ErrState)
	}
}

func TestBrokenAnswers(t *testing.T) {
	codes := map[int]bool{}
	full := box(stores(4096)...)
	for name, w := range brokenAnswers() {
		code := codeNamed(name)
		codes[code] = true
		refusesWire(t, w, code)
		for _, status := range []int{200, 250, 299} {
			w.Status = status
			for _, b := range []impl.Box{{}, box(stores(1)...), box(stores(3)...), box(stored{3, 5, "other"}, stored{10, 5, "other"}), full} {
				refusesAnswer(t, b, w, code)
			}
			refusesAnswers(t, code, w)
		}
	}
	if len(codes) != 9 {
		t.Errorf("only the codes %v", codes)
	}
	for _, v := range jsonErrors {
		for _, ids := range [][]int{nil, {3}, {3, 10, 17}} {
			refusesAnswer(t, box(stores(3)...), impl.Wire{Status: 200, Ids: ids, Body: v.text}, v.code)
			refusesAnswers(t, v.code, impl.Wire{Status: 200, Ids: ids, Body: v.text})
		}
	}
}

// TestLongestAnswers: the text of a wire has MaxText bytes or one more.
func TestLongestAnswers(t *testing.T) {
	w := taught(parcels(3)...)
	want, _ := impl.Receive(impl.Box{}, w)
	w.Body += strings.Repeat(" ", impl.MaxText-len(w.Body))
	receives(t, impl.Box{}, w, want)
	receivesAll(t, want, w)
	w.Body += " "
	refusesAnswer(t, want, w, impl.ErrBad)
	refusesAnswers(t, impl.ErrBad, w)
	for _, n := range []int{7999, 8000} {
		receives(t, impl.Box{}, taught(parcel(3, 0, bulky(n))), box(stored{3, 1, bulky(n)}))
	}
	refusesAnswer(t, box(stored{3, 1, bulky(8000)}), taught(parcel(3, 0, bulky(8001))), impl.ErrForm)
}

// TestLostAnswers: whether an answer was lost is nothing that a receiver knows.
// The other fields of a wire tell nothing, either.
func TestLostAnswers(t *testing.T) {
	b := box(stores(2)...)
	for _, change := range otherFields {
		for _, isLost := range []bool{false, true} {
			changed := func(w impl.Wire) impl.Wire {
				status := w.Status
				change(&w)
				w.Status, w.Lost = status, isLost
				return w
			}
			for n := range impl.MaxBatch + 1 {
				want, _ := impl.Receive(b, taught(parcels(n)...))
				receives(t, b, changed(taught(parcels(n)...)), want)
				all, _ := impl.ReceiveAll([]impl.Wire{taught(parcels(n)...)})
				receivesAll(t, all, changed(taught(parcels(n)...)))
				refusesAnswer(t, b, changed(answered(500, parcels(n)...)), impl.ErrState)
			}
			refusesAnswer(t, b, changed(taught(otherBodies(1)...)), impl.ErrAgain)
			for name, w := range brokenAnswers() {
				refusesAnswer(t, b, changed(w), codeNamed(name))
			}
		}
	}
	receives(t, b, impl.Wire{Status: 204, Lost: true, Ids: []int{3}, Body: `[{"age":0,"body":{},"id":3}]`}, box(stored{3, 2, "{}"}, stored{10, 11, b.Bodies[1]}))
}

// TestNewAndOldReports: what is new is appended in order, what is there is
// counted where it is; ages do not matter.
func TestNewAndOldReports(t *testing.T) {
	b := box(stored{9, 1, "{}"}, stored{4, 7, `{"a":1}`})
	for _, v := range []struct {
		list []impl.Parcel
		want []stored
	}{
		{nil, []stored{{9, 1, "{}"}, {4, 7, `{"a":1}`}}},
		{[]impl.Parcel{parcel(9, 0, "{}")}, []stored{{9, 2, "{}"}, {4, 7, `{"a":1}`}}},
		{[]impl.Parcel{parcel(9, 1000000, "{}")}, []stored{{9, 2, "{}"}, {4, 7, `{"a":1}`}}},
		{[]impl.Parcel{parcel(4, 3, `{"a":1}`)}, []stored{{9, 1, "{}"}, {4, 8, `{"a":1}`}}},
		{[]impl.Parcel{parcel(4, 3, `{"a":1}`), parcel(9, 3, "{}")}, []stored{{9, 2, "{}"}, {4, 8, `{"a":1}`}}},
		{[]impl.Parcel{parcel(5, 3, "{}")}, []stored{{9, 1, "{}"}, {4, 7, `{"a":1}`}, {5, 1, "{}"}}},
		{[]impl.Parcel{parcel(10, 3, "{}"), parcel(1, 3, "{}")}, []stored{{9, 1, "{}"}, {4, 7, `{"a":1}`}, {10, 1, "{}"}, {1, 1, "{}"}}},
		{[]impl.Parcel{parcel(1000000, 3, `{"b":[]}`), parcel(9, 3, "{}"), parcel(1, 3, "{}")}, []stored{{9, 2, "{}"}, {4, 7, `{"a":1}`}, {1000000, 1, `{"b":[]}`}, {1, 1, "{}"}}},
		// The same Id twice in one wire.
		{[]impl.Parcel{parcel(9, 0, "{}"), parcel(9, 5, "{}")}, []stored{{9, 3, "{}"}, {4, 7, `{"a":1}`}}},
		{[]impl.Parcel{parcel(9, 0, "{}"), parcel(9, 5, "{}"), parcel(9, 0, "{}")}, []stored{{9, 4, "{}"}, {4, 7, `{"a":1}`}}},
		{[]impl.Parcel{parcel(5, 0, "{}"), parcel(5, 5, "{}")}, []stored{{9, 1, "{}"}, {4, 7, `{"a":1}`}, {5, 2, "{}"}}},
		{[]impl.Parcel{parcel(5, 0, "{}"), parcel(5, 5, "{}"), parcel(5, 5, "{}")}, []stored{{9, 1, "{}"}, {4, 7, `{"a":1}`}, {5, 3, "{}"}}},
		{[]impl.Parcel{parcel(6, 0, "{}"), parcel(5, 5, "{}"), parcel(6, 5, "{}")}, []stored{{9, 1, "{}"}, {4, 7, `{"a":1}`}, {6, 2, "{}"}, {5, 1, "{}"}}},
		{[]impl.Parcel{parcel(5, 0, "{}"), parcel(4, 5, `{"a":1}`), parcel(5, 5, "{}")}, []stored{{9, 1, "{}"}, {4, 8, `{"a":1}`}, {5, 2, "{}"}}},
	} {
		receives(t, b, taught(v.list...), box(v.want...))
		receives(t, b, answered(299, v.list...), box(v.want...))
	}
}

// TestBodiesAsTold: a body is compared and kept in the form of JsonText.
func TestBodiesAsTold(t *testing.T) {
	for _, v := range []struct{ written, body string }{
		{"{ }", "{}"}, {`{"a": 1}`, `{"a":1}`}, {`{"\u0061":"\/"}`, `{"a":"/"}`}, {`{"a":"\n"}`, `{"a":"\u000a"}`},
	} {
		receives(t, impl.Box{}, taught(parcel(7, 5, v.written)), box(stored{7, 1, v.body}))
		receives(t, box(stored{7, 1, v.body}), taught(parcel(7, 5, v.written)), box(stored{7, 2, v.body}))
		refusesAnswer(t, box(stored{7, 1, v.written}), taught(parcel(7, 5, v.written)), impl.ErrAgain)
		refusesAnswer(t, box(stored{7, 1, v.written}), taught(parcel(7, 5, v.body)), impl.ErrAgain)
	}
	// No parcel has a body like these.
	for _, body := range []string{"", "x", "[]", "{}\x00", " {}"} {
		refusesAnswer(t, box(stored{7, 1, body}), taught(parcel(7, 5, "{}")), impl.ErrAgain)
		receives(t, box(stored{7, 1, body}), taught(parcel(8, 5, "{}")), box(stored{7, 1, body}, stored{8, 1, "{}"}))
	}
}

// TestAnotherBody: an Id with another body is refused, and nothing of its wire
// is kept.
func TestAnotherBody(t *testing.T) {
	b := box(stored{9, 1, "{}"}, stored{4, 7, `{"a":1}`})
	for _, list := range [][]impl.Parcel{
		{parcel(9, 0, `{"a":1}`)}, {parcel(4, 0, "{}")}, {parcel(4, 0, `{"a":2}`)}, {parcel(4, 0, `{"a":1,"b":2}`)}, {parcel(4, 0, `{"A":1}`)},
		// Behind parcels that would be counted or appended.
		{parcel(9, 0, "{}"), parcel(4, 0, "{}")}, {parcel(5, 0, "{}"), parcel(4, 0, "{}")}, {parcel(5, 0, "{}"), parcel(9, 0, "{}"), parcel(4, 0, "{}")}, {parcel(9, 0, "{}"), parcel(9, 0, `{"a":1}`)},
		// Before others.
		{parcel(4, 0, "{}"), parcel(9, 0, "{}")}, {parcel(4, 0, "{}"), parcel(5, 0, "{}"), parcel(6, 0, "{}")}, {parcel(5, 0, "{}"), parcel(4, 0, "{}"), parcel(6, 0, "{}")},
		// An Id that came in the same wire.
		{parcel(5, 0, "{}"), parcel(5, 0, `{"a":1}`)}, {parcel(5, 0, "{}"), parcel(5, 0, "{}"), parcel(5, 0, `{"a":1}`)}, {parcel(5, 0, "{}"), parcel(9, 0, "{}"), parcel(5, 0, `{"a":1}`)}, {parcel(5, 0, "{}"), parcel(5, 0, `{"a":1}`), parcel(5, 0, "{}")},
	} {
		refusesAnswer(t, b, taught(list...), impl.ErrAgain)
		refusesAnswers(t, impl.ErrAgain, taught(parcel(9, 0, "{}")), taught(parcel(4, 0, `{"a":1}`)), taught(list...))
	}
	// After a refusal, the box is as good as before.
	refused, _ := impl.Receive(b, taught(parcel(5, 0, "{}"), parcel(9, 0, "{}"), parcel(4, 0, "{}")))
	receives(t, refused, taught(parcel(5, 0, `{"b":1}`), parcel(9, 0, "{}")), box(stored{9, 2, "{}"}, stored{4, 7, `{"a":1}`}, stored{5, 1, `{"b":1}`}))
}

func TestMostTimes(t *testing.T) {
	for _, times := range []int{1, 2, 500, 999996, 999997, 999998, 999999, 1000000} {
		for k := range impl.MaxBatch + 1 {
			list := slices.Repeat([]impl.Parcel{parcel(8, 5, "{}")}, k)
			inEachPlace(stored{8, times, "{}"}, func(b impl.Box) {
				want := copiedBox(b)
				want.Times[slices.Index(b.Ids, 8)] = min(times+k, 1000000)
				receives(t, b, taught(list...), want)
				isBox(t, want)
			})
		}
	}
	most := box(stored{3, 1000000, "{}"}, stored{10, 1000000, parcels(2)[1].Body})
	receives(t, most, taught(parcels(2)...), most)
	refusesAnswer(t, most, taught(parcels(1)[0], otherBodies(2)[1]), impl.ErrAgain)
}

// TestFullBoxes: a box has at most MaxList Ids; what it has is still counted.
func TestFullBoxes(t *testing.T) {
	for n := 4093; n <= 4096; n++ {
		list := stores(n)
		b := box(list...)
		for k := range impl.MaxBatch + 1 {
			if n+k > 4096 {
				refusesAnswer(t, b, taught(newIds(k)...), impl.ErrFull)
			} else {
				added := slices.Clone(list)
				for _, x := range newIds(k) {
					added = append(added, stored{x.Id, 1, x.Body})
				}
				receives(t, b, taught(newIds(k)...), box(added...))
			}
			counted := copiedBox(b)
			for i := range k {
				counted.Times[i]++
			}
			receives(t, b, taught(parcels(k)...), counted)
		}
	}
	b := box(stores(4096)...)
	old, fresh, other := parcels(1)[0], newIds(2), otherBodies(1)[0]
	again := fresh[0]
	again.Body = `{"again":1}`
	for _, list := range [][]impl.Parcel{{fresh[0]}, {fresh[0], fresh[0]}, {old, fresh[0]}, {fresh[0], old}, {old, old, fresh[0]}, {fresh[0], fresh[1], old}, {fresh[0], fresh[1], fresh[0]}} {
		refusesAnswer(t, b, taught(list...), impl.ErrFull)
	}
	// Another body is found first, wherever it is.
	for _, list := range [][]impl.Parcel{{fresh[0], other}, {other, fresh[0]}, {fresh[0], fresh[1], other}, {old, fresh[0], other}, {fresh[0], again}, {fresh[0], fresh[1], again}, {fresh[0], old, again}} {
		refusesAnswer(t, b, taught(list...), impl.ErrAgain)
	}
	// In the last place, the same Id is as good twice.
	last := box(stores(4095)...)
	want := box(append(stores(4095), stored{fresh[0].Id, 2, fresh[0].Body})...)
	receives(t, last, taught(fresh[0], fresh[0]), want)
	refusesAnswer(t, last, taught(fresh[0], again), impl.ErrAgain)
	refusesAnswer(t, last, taught(fresh[0], fresh[1]), impl.ErrFull)
	refusesAnswer(t, want, taught(fresh[1]), impl.ErrFull)
}

// TestReceivedAgain: the same wire, again and again.
func TestReceivedAgain(t *testing.T) {
	b := impl.Box{}
	for n := 1; n <= 200; n++ {
		w := taught(parcels(3)...)
		w.Lost = n%2 == 0
		b, _ = impl.Receive(b, w)
		want := box(stored{3, n, parcels(3)[0].Body}, stored{10, n, parcels(3)[1].Body}, stored{17, n, parcels(3)[2].Body})
		if !equalBoxes(b, want) || !impl.SameBox(b, want) {
			t.Fatalf("after %d times: %s", n, briefBox(b))
		}
		receivesAll(t, want, slices.Repeat([]impl.Wire{w}, n)...)
	}
}

func TestReceiveAll(t *testing.T) {
	receivesAll(t, impl.Box{})
	if b, code := impl.ReceiveAll([]impl.Wire{}); !isNoBox(b) || code != impl.OK {
		t.Errorf("ReceiveAll of no wires = %s, %d", briefBox(b), code)
	}
	receivesAll(t, impl.Box{}, taught())
	receivesAll(t, impl.Box{}, taught(), answered(500), taught())
	receivesAll(t, box(stored{9, 3, "{}"}, stored{2, 1, `{"a":1}`}, stored{1, 2, "{}"}),
		answered(503, parcel(5, 0, "{}")),
		taught(parcel(9, 0, "{}"), parcel(2, 0, `{"a":1}`)),
		answered(410, parcel(2, 0, "{}")),
		answered(204, parcel(1, 7, "{}"), parcel(9, 3, "{}")),
		impl.Wire{},
		taught(),
		answered(299, parcel(9, 3, "{}"), parcel(1, 9, "{}")),
		answered(300, parcel(9, 3, "{}"), parcel(6, 9, "{}")),
	)
	// Wires that are no more skipped are in conflict.
	refusesAnswers(t, impl.ErrAgain, taught(parcel(2, 0, `{"a":1}`)), answered(201, parcel(2, 0, "{}")))
	receivesAll(t, box(stored{2, 1, "{}"}), answered(500, parcel(2, 0, `{"a":1}`)), answered(201, parcel(2, 0, "{}")))
}

// TestCountsOfAnswers: a list has at most MaxList wires, whatever they are.
func TestCountsOfAnswers(t *testing.T) {
	for _, n := range []int{1, 2, 60, 61, 4095, 4096} {
		receivesAll(t, box(stored{9, n, "{}"}), slices.Repeat([]impl.Wire{taught(parcel(9, 0, "{}"))}, n)...)
		receivesAll(t, impl.Box{}, make([]impl.Wire, n)...)
		refusesAnswers(t, impl.ErrForm, slices.Repeat([]impl.Wire{{Status: 200}}, n)...)
	}
	for _, n := range []int{4097, 4098, 1 << 16} {
		refusesAnswers(t, impl.ErrLong, slices.Repeat([]impl.Wire{taught(parcel(9, 0, "{}"))}, n)...)
		refusesAnswers(t, impl.ErrLong, make([]impl.Wire, n)...)
		refusesAnswers(t, impl.ErrLong, slices.Repeat([]impl.Wire{{Status: 200}}, n)...)
	}
}

// TestBrokenAnswersAmongOthers: a wire with a code is found in each place, and
// the first one tells.
func TestBrokenAnswersAmongOthers(t *testing.T) {
	good := []impl.Wire{taught(parcel(9, 0, "{}")), answered(500), taught(parcel(9, 0, "{}"), parcel(8, 0, "{}")), impl.Wire{}}
	for name, w := range brokenAnswers() {
		code := codeNamed(name)
		for n := range len(good) + 1 {
			for i := range n + 1 {
				refusesAnswers(t, code, slices.Insert(slices.Clone(good[:n]), i, w)...)
			}
			other := append(slices.Clone(good[:n]), w)
			for second, v := range brokenAnswers() {
				refusesAnswers(t, code, append(slices.Clone(other), v)...)
				refusesAnswers(t, codeNamed(second), v, w, good[0])
			}
		}
		w.Status = 199
		receivesAll(t, box(stored{9, 2, "{}"}, stored{8, 1, "{}"}), slices.Insert(slices.Clone(good), 2, w)...)
	}
	other := taught(parcel(8, 0, `{"a":1}`))
	for i := range 5 {
		refusesAnswers(t, impl.ErrAgain, slices.Insert(slices.Clone(good), i, other)...)
	}
	refusesAnswers(t, impl.ErrAgain, append(slices.Clone(good), other, impl.Wire{Status: 200})...)
	refusesAnswers(t, impl.ErrForm, append(slices.Clone(good), impl.Wire{Status: 200}, other)...)
}

// TestManyAnswers fills a box with wires.
func TestManyAnswers(t *testing.T) {
	var wires []impl.Wire
	var list []stored
	for i := 1; len(list) < 4095; i += 3 {
		wires = append(wires, taught(parcel(i+2, 0, "{}"), parcel(i, 0, "{}"), parcel(i+1, 0, "{}")))
		list = append(list, stored{i + 2, 1, "{}"}, stored{i, 1, "{}"}, stored{i + 1, 1, "{}"})
	}
	receivesAll(t, box(list...), wires...)
	last, next := taught(parcel(5000, 0, "{}")), taught(parcel(5001, 0, "{}"))
	full := append(slices.Clone(list), stored{5000, 1, "{}"})
	wires = append(wires, last)
	receivesAll(t, box(full...), wires...)
	refusesAnswers(t, impl.ErrFull, append(slices.Clone(wires), next)...)
	refusesAnswers(t, impl.ErrFull, append(slices.Clone(wires), next, taught(parcel(1, 0, `{"a":1}`)))...)
	refusesAnswers(t, impl.ErrFull, append(slices.Clone(wires), next, impl.Wire{Status: 200})...)
	refusesAnswers(t, impl.ErrAgain, append(slices.Clone(wires), taught(parcel(5001, 0, "{}"), parcel(1, 0, `{"a":1}`)))...)
	next.Status = 500
	full[0].times, full[4095].times = 2, 3
	receivesAll(t, box(full...), append(slices.Clone(wires), next, last, taught(parcel(3, 0, "{}"), parcel(5000, 0, "{}")))...)
}

// TestWhatABoxHas asks for every Id of a box.
func TestWhatABoxHas(t *testing.T) {
	for _, n := range []int{0, 1, 2, 5, 100} {
		list := stores(n)
		b := box(list...)
		for _, x := range list {
			has(t, b, x)
			for _, id := range []int{x.id - 1, x.id + 1, -x.id, x.id + 1<<32} {
				hasNot(t, b, id, impl.ErrNone)
			}
		}
	}
	hasNot(t, impl.Box{}, 1, impl.ErrNone)
	b := box(stored{1000000, 1000000, ""}, stored{1, 1, "x"})
	has(t, b, stored{1000000, 1000000, ""})
	has(t, b, stored{1, 1, "x"})
	b.Ids[1] = 1000000
	hasNot(t, b, 1000000, impl.ErrBad)
	hasNot(t, b, 7, impl.ErrBad)
}

// TestReceiverOfEvents: a report is received as often as it was answered with
// success, although the answer to the first time was lost.
func TestReceiverOfEvents(t *testing.T) {
	p, told := withReports(t, 4)
	p, _, _ = impl.DoEvent(p, sendEvent("csp", 0, 500))
	receivesAll(t, impl.Box{}, p.Wires...)
	p = done(t, p, tickEvent(9))
	p, _, _ = impl.DoEvent(p, lost(sendEvent("csp", 0, 200)))
	first := box(stored{5, 1, told[0]}, stored{6, 1, told[1]}, stored{7, 1, told[2]})
	receivesAll(t, first, p.Wires...)
	p = done(t, p, tickEvent(9))
	p = done(t, p, sendEvent("csp", 0, 299))
	receivesAll(t, box(stored{5, 2, told[0]}, stored{6, 2, told[1]}, stored{7, 2, told[2]}), p.Wires...)
	p = done(t, p, sendEvent("csp", 0, 204))
	all := box(stored{5, 2, told[0]}, stored{6, 2, told[1]}, stored{7, 2, told[2]}, stored{8, 1, told[3]})
	receivesAll(t, all, p.Wires...)
	leaves(t, p, sendEvent("csp", 0, 200), impl.ErrNone)
	receives(t, first, p.Wires[1], box(stored{5, 2, told[0]}, stored{6, 2, told[1]}, stored{7, 2, told[2]}))
	refusesAnswer(t, first, p.Wires[0], impl.ErrState)
}

// TestReceiverOfOtherBodies: the wires of queues with bodies that are no texts
// of objects have no parcels.
func TestReceiverOfOtherBodies(t *testing.T) {
	for _, body := range []string{"x", "[]", `{"a":{"b":{}}}`, `{},"id":7`} {
		p := pipe(toCsp, "csp")
		p.Now, p.Next = 9, 8
		p.Channels[0].Queue = queue(nil, report(7, 4, 0, body))
		p = done(t, p, sendEvent("csp", 0, 200))
		_, code := impl.ParcelsOf(p.Wires[0])
		if code == impl.OK {
			t.Errorf("%q is the body of a parcel", body)
		}
		refusesAnswers(t, code, p.Wires...)
	}
}
