package tests

import (
	"fmt"
	"math/rand"
	"slices"
	"strings"
	"testing"

	"loop.example/g00779/impl"
)

// The model reads chapter 11 a second time, on top of the model of JSON. It
// knows the members of an item as a sorted list of words, and prints parcels as
// the parts of a value.

func modelParcelOK(x impl.Parcel) bool {
	j, code := modelRead(x.Body)
	return code == impl.OK && j.Kind == impl.JsObject && modelDepth(j) < 4 && strings.Join(jsonParts(j), "") == x.Body &&
		len(x.Body) < 8001 && x.Id > 0 && x.Age >= 0 && max(x.Id, x.Age) < 1000001
}

func modelParcelsText(parcels []impl.Parcel) (string, int) {
	if len(parcels) > 4096 {
		return "", impl.ErrLong
	}
	if len(parcels) > 3 {
		return "", impl.ErrMany
	}
	j := list()
	for _, x := range parcels {
		if !modelParcelOK(x) {
			return "", impl.ErrBad
		}
		j.Items = append(j.Items, itemOf(x, []int{0, 1, 2}))
	}
	return strings.Join(jsonParts(j), ""), impl.OK
}

func modelParcels(t string) ([]impl.Parcel, int) {
	j, code := modelRead(t)
	switch {
	case code != impl.OK:
		return nil, code
	case j.Kind != impl.JsList:
		return nil, impl.ErrKind
	case len(j.Items) >= 4:
		return nil, impl.ErrMany
	}
	var parcels []impl.Parcel
	for _, item := range j.Items {
		words, values := []string{}, map[string]impl.Json{}
		for i, name := range item.Names {
			words = append(words, fmt.Sprint(name, item.Items[i].Kind))
			values[name] = item.Items[i]
		}
		slices.Sort(words)
		if !slices.Equal(words, []string{"age3", "body6", "id3"}) {
			return nil, impl.ErrForm
		}
		x := parcel(values["id"].Num, values["age"].Num, strings.Join(jsonParts(values["body"]), ""))
		if !modelParcelOK(x) {
			return nil, impl.ErrForm
		}
		parcels = append(parcels, x)
	}
	return parcels, impl.OK
}

func modelParcelsOf(w impl.Wire) ([]impl.Parcel, int) {
	if len(w.Body) >= 65537 || len(w.Ids) >= 4097 {
		return nil, impl.ErrBad
	}
	parcels, code := modelParcels(w.Body)
	if code == impl.OK && fmt.Sprint(idsOf(parcels)) != fmt.Sprint(w.Ids) {
		return nil, impl.ErrOrder
	}
	return parcels, code
}

// checkText compares what is read from a text with the model, and returns the
// code.
func checkText(t *testing.T, text string) int {
	t.Helper()
	want, code := modelParcels(text)
	if got, c := impl.ReadParcels(text); !slices.Equal(got, want) || c != code {
		t.Fatalf("ReadParcels(%q) = %s, %d, not %s, %d", text, briefParcels(got), c, briefParcels(want), code)
	}
	checkWire(t, impl.Wire{Ids: idsOf(want), Body: text})
	return code
}

func checkWire(t *testing.T, w impl.Wire) int {
	t.Helper()
	want, code := modelParcelsOf(w)
	if got, c := impl.ParcelsOf(w); !slices.Equal(got, want) || c != code {
		t.Fatalf("ParcelsOf(%.2000q) = %s, %d, not %s, %d", fmt.Sprintf("%+v", w), briefParcels(got), c, briefParcels(want), code)
	}
	return code
}

// checkParcels compares the text of parcels with the model, and reads it back;
// it returns the code.
func checkParcels(t *testing.T, parcels []impl.Parcel) int {
	t.Helper()
	want, code := modelParcelsText(parcels)
	s, c := impl.ParcelsText(parcels)
	if s != want || c != code {
		t.Fatalf("ParcelsText(%s) = %q, %d, not %q, %d", briefParcels(parcels), s, c, want, code)
	}
	for _, x := range parcels {
		if impl.ParcelOK(x) != modelParcelOK(x) {
			t.Fatalf("ParcelOK(%+v) is not %v", x, modelParcelOK(x))
		}
	}
	if code == impl.OK {
		readsParcels(t, s, parcels...)
	}
	return code
}

// randomObject returns an object that a parcel may have, if its text is not too
// long.
func randomObject(r *rand.Rand) impl.Json {
	j := randomJson(r, 3)
	for j.Kind != impl.JsObject {
		j = randomJson(r, 3)
	}
	return j
}

func randomParcel(r *rand.Rand) impl.Parcel {
	numbers := []int{1, 2, 3, 10, 999, 999999, 1000000}
	x := parcel(numbers[r.Intn(7)], numbers[r.Intn(7)]-r.Intn(2), strings.Join(jsonParts(randomObject(r)), ""))
	if len(x.Body) > 8000 {
		return randomParcel(r)
	}
	return x
}

// changedParcel changes x in one place, which need not make it invalid.
func changedParcel(r *rand.Rand, x impl.Parcel) impl.Parcel {
	j, _ := modelRead(x.Body)
	number := []int{-1, 0, 1, 999999, 1000000, 1000001}[r.Intn(6)]
	switch r.Intn(8) {
	case 0:
		x.Id = number
	case 1:
		x.Age = number
	case 2:
		x.Body = spelled(r, jsonParts(j))
	case 3:
		x.Body = misspelled(r, jsonParts(j))
	case 4:
		x.Body = strings.Join(jsonParts(randomJson(r, 5)), "")
	case 5:
		x.Body = strings.Join(jsonParts(inside(1+r.Intn(2), j, r.Intn(2) == 0)), "")
	case 6:
		x.Body = randomJsonText(r)
	case 7:
		x.Body = bulky(7990 + r.Intn(20))
	}
	return x
}

func randomParcels(r *rand.Rand) []impl.Parcel {
	var parcels []impl.Parcel
	for range []int{0, 1, 1, 1, 2, 2, 3, 3, 4, 5}[r.Intn(10)] {
		parcels = append(parcels, randomParcel(r))
	}
	return parcels
}

// randomSent returns the value of a wire's text: a list of items, of which some
// are changed.
func randomSent(r *rand.Rand) impl.Json {
	j := list()
	for _, x := range randomParcels(r) {
		j.Items = append(j.Items, itemOf(x, r.Perm(3)))
	}
	if len(j.Items) == 0 || r.Intn(2) == 0 {
		return j
	}
	item := &j.Items[r.Intn(len(j.Items))]
	i := r.Intn(3)
	switch r.Intn(7) {
	case 0:
		item.Items[i] = randomJson(r, 3)
	case 1:
		item.Items[i] = number([]int{-1, 0, 1, 999999, 1000000, 1000001}[r.Intn(6)])
	case 2:
		item.Names[i] = []string{"", "Id", "ages", "x"}[r.Intn(4)]
	case 3:
		item.Names, item.Items = append(item.Names, "x"), append(item.Items, randomJson(r, 2))
	case 4:
		item.Names, item.Items = slices.Delete(item.Names, i, i+1), slices.Delete(item.Items, i, i+1)
	case 5:
		*item = randomJson(r, 4)
	case 6:
		return *item
	}
	return j
}

func TestModelOfParcels(t *testing.T) {
	r := rand.New(rand.NewSource(101))
	found := map[int]int{}
	for i := range 5000 {
		parcels := randomParcels(r)
		for range i % 3 {
			if len(parcels) > 0 {
				k := r.Intn(len(parcels))
				parcels[k] = changedParcel(r, parcels[k])
			}
		}
		found[checkParcels(t, parcels)]++
	}
	for code, least := range map[int]int{impl.OK: 1500, impl.ErrBad: 800, impl.ErrMany: 800} {
		if found[code] < least {
			t.Errorf("only %d lists have the code %d", found[code], code)
		}
	}
}

// TestModelOfSentTexts reads the texts of parcels that are spelled in other
// ways, and of such that are changed.
func TestModelOfSentTexts(t *testing.T) {
	r := rand.New(rand.NewSource(102))
	found := map[int]int{}
	for i := range 12000 {
		parts := jsonParts(randomSent(r))
		text := spelled(r, parts)
		if i%2 == 0 {
			text = misspelled(r, parts)
		}
		found[checkText(t, text)]++
	}
	for code, least := range map[int]int{
		impl.OK: 3000, impl.ErrKind: 200, impl.ErrMany: 500, impl.ErrForm: 2000, impl.ErrDeep: 30, impl.ErrSize: 10, impl.ErrAgain: 30, impl.ErrRange: 20,
	} {
		if found[code] < least {
			t.Errorf("only %d texts have the code %d", found[code], code)
		}
	}
}

// TestModelOfSentWires gives wires Ids that need not be those of their text.
func TestModelOfSentWires(t *testing.T) {
	r := rand.New(rand.NewSource(103))
	found := map[int]int{}
	for range 5000 {
		w := impl.Wire{Body: spelled(r, jsonParts(randomSent(r)))}
		parcels, _ := modelParcels(w.Body)
		w.Ids = idsOf(parcels)
		i := r.Intn(len(w.Ids) + 1)
		switch r.Intn(6) {
		case 0:
			w.Ids = slices.Insert(w.Ids, i, []int{1, 2, 1000000}[r.Intn(3)])
		case 1:
			w.Ids = slices.Delete(w.Ids, i, min(i+1, len(w.Ids)))
		case 2:
			slices.Reverse(w.Ids)
		case 3:
			otherFields[r.Intn(len(otherFields))](&w)
		case 4:
			w.Body += strings.Repeat(" ", max(65535+r.Intn(3)-len(w.Body), 0))
		case 5:
			if r.Intn(20) == 0 {
				w.Ids = append(w.Ids, make([]int, 4095+r.Intn(3))...)
			}
		}
		found[checkWire(t, w)]++
	}
	for code, least := range map[int]int{impl.OK: 1000, impl.ErrOrder: 500, impl.ErrBad: 150, impl.ErrForm: 300, impl.ErrMany: 300, impl.ErrKind: 50} {
		if found[code] < least {
			t.Errorf("only %d wires have the code %d", found[code], code)
		}
	}
}

// TestEveryByteOfWires puts every byte into every place of a text and of a
// body, also instead of the byte that is there, and removes the byte.
func TestEveryByteOfWires(t *testing.T) {
	body := `{"a":["\u000a/",-10],"b":{"":null}}`
	everyByte(body, func(s string) { checkParcels(t, []impl.Parcel{parcel(7, 5, s)}) })
	everyByte(`{}`, func(s string) { checkParcels(t, []impl.Parcel{parcel(7, 5, s)}) })
	for _, text := range []string{
		sentText(parcel(10, 10, body)),
		sentText(parcel(1, 0, "{}"), parcel(1000000, 1000000, "{}"), parcel(2, 3, `{"id":7}`)),
		` [ { "id" : 1 , "body" : { } , "age" : 0 } ] `,
		`[{"\u0069d":7,"age":5,"bod\u0079":{"\/":"\n"}}]`,
		"[]",
	} {
		everyByte(text, func(s string) { checkText(t, s) })
	}
}

// sender knows each report from the violation and the time of its event.
type sender struct {
	pipe impl.Pipe
	born map[int]int
	body map[int]string
	sent int
}

func (x *sender) do(t *testing.T, e impl.Event) {
	t.Helper()
	before := x.pipe
	p, _ := taken(t, before, e)
	x.pipe = p
	if p.Next > before.Next {
		x.born[before.Next], x.body[before.Next] = before.Now, modelTold(e.Violation).text()
	}
	if len(p.Wires) > len(before.Wires) {
		x.check(t, p.Wires[len(p.Wires)-1], before.Channels[modelPlace(before, e.Name)].Queue)
		x.sent++
	}
}

// check: the parcels of a wire are the first reports of the queue, as they were
// when they were reported.
func (x *sender) check(t *testing.T, w impl.Wire, q impl.Queue) {
	t.Helper()
	var want []impl.Parcel
	for _, r := range q.Items[:min(3, len(q.Items))] {
		want = append(want, parcel(r.Id, w.At-x.born[r.Id], x.body[r.Id]))
	}
	takesParcels(t, w, want...)
	x.checkText(t, w)
}

// checkText: the parcels have the text of the wire, and those of all reports
// are known.
func (x *sender) checkText(t *testing.T, w impl.Wire) {
	t.Helper()
	list, code := impl.ParcelsOf(w)
	for _, one := range list {
		if one != parcel(one.Id, w.At-x.born[one.Id], x.body[one.Id]) {
			t.Errorf("%+v is no parcel of %+v", one, w)
		}
	}
	if s, c := impl.ParcelsText(list); s != w.Body || c != impl.OK || code != impl.OK {
		t.Errorf("ParcelsText(%s) = %q, %d, not %q", briefParcels(list), s, c, w.Body)
	}
}

// colorful replaces the violation of an event by one that tells more.
func colorful(r *rand.Rand, e impl.Event) impl.Event {
	if v := randomViolation(r); e.Kind == impl.EvViolation && impl.ViolationOK(v) {
		e.Violation = v
	}
	return e
}

// TestPromise10 does long sequences of events, after each of which what was
// sent is recovered from the wires.
func TestPromise10(t *testing.T) {
	r := rand.New(rand.NewSource(104))
	sizes := [4]int{}
	for i := range 300 {
		x := &sender{pipe: impl.NewPipe(), born: map[int]int{}, body: map[int]string{}}
		x.pipe.Now = []int{0, 0, impl.MaxNow - 200}[r.Intn(3)]
		for _, e := range eventsOf(r, 150, i%3 > 0)[i%4:] {
			if i%2 == 0 {
				e = colorful(r, e)
			}
			x.do(t, e)
			if t.Failed() {
				t.Fatalf("after %s", briefEvent(e))
			}
		}
		for _, w := range x.pipe.Wires {
			x.checkText(t, w)
			sizes[len(w.Ids)]++
		}
		if len(x.pipe.Wires) != x.sent {
			t.Errorf("%s: %d wires were checked", briefPipe(x.pipe), x.sent)
		}
	}
	if slices.Min(sizes[1:]) < 150 {
		t.Errorf("numbers of wires with so many reports: %v", sizes)
	}
}

// TestRunsAreRecovered: the wires of runs tell the reports of their violations.
func TestRunsAreRecovered(t *testing.T) {
	r := rand.New(rand.NewSource(105))
	found := 0
	for i := range 300 {
		events := eventsOf(r, 60, i%2 == 0)
		x := &sender{pipe: impl.NewPipe(), born: map[int]int{}, body: map[int]string{}}
		for k := range events {
			events[k] = colorful(r, events[k])
			x.do(t, events[k])
		}
		p, _, _ := impl.RunEvents(events)
		for _, w := range p.Wires {
			x.checkText(t, w)
			found++
		}
		if len(p.Wires) != x.sent || t.Failed() {
			t.Fatalf("%s: %d wires were checked", briefPipe(p), x.sent)
		}
	}
	if found < 1000 {
		t.Errorf("only %d wires", found)
	}
}

// TestOtherReportsAreRecovered sends reports of queues whose bodies are those of
// parcels, and some that are not.
func TestOtherReportsAreRecovered(t *testing.T) {
	r := rand.New(rand.NewSource(106))
	found := map[int]int{}
	for i := range 2500 {
		p := pipe(toCsp, "csp")
		p.Now, p.Next = 1000, 9
		var want []impl.Parcel
		q := &p.Channels[0].Queue
		for k := range 1 + r.Intn(5) {
			x := randomParcel(r)
			if i%3 == 0 {
				x = changedParcel(r, x)
			}
			if x.Body == "" || len(x.Body) > 8000 {
				x.Body = "{"
			}
			born := k * r.Intn(100)
			if len(q.Items) > 0 {
				born = max(born, q.Items[k-1].Born)
			}
			q.Items = append(q.Items, report(k+2, born, r.Intn(4), x.Body))
			want = append(want, parcel(k+2, 1000-born, x.Body))
		}
		want = want[:min(3, len(want))]
		p, _, code := impl.DoEvent(p, sendEvent("csp", 0, 200))
		if code != impl.OK || len(p.Wires) != 1 {
			t.Fatalf("%s: nothing was sent", briefPipe(p))
		}
		if _, code := impl.ParcelsText(want); code == impl.OK {
			takesParcels(t, p.Wires[0], want...)
		}
		found[checkWire(t, p.Wires[0])]++
	}
	if found[impl.OK] < 1200 || len(found) < 5 {
		t.Errorf("the codes are found so often: %v", found)
	}
}
