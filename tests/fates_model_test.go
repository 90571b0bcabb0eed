package tests

import (
	"maps"
	"math/rand"
	"regexp"
	"slices"
	"strings"
	"testing"

	"loop.example/g00779/impl"
)

// The model reads chapter 10 a second time. It has no counts: it spells the
// Kinds of a report's entries as digits, and a pattern tells whether the report
// has one fate.

var modelStory = regexp.MustCompile(`^([167]|1[2345])$`)

// modelFates is what the model knows of a pipeline.
type modelFates struct {
	pipe    impl.Pipe
	valid   bool
	stories map[int]string
}

func modelFatesOf(p impl.Pipe) modelFates {
	m := modelFates{p, modelPipeOK(p), map[int]string{}}
	for _, x := range p.Log {
		m.stories[x.Id] += string(rune('0' + x.Kind))
	}
	return m
}

func (m modelFates) fate(id int) (int, int) {
	if !m.valid {
		return 0, impl.ErrBad
	}
	story := m.stories[id]
	if story == "" {
		return 0, impl.ErrNone
	}
	return int(story[len(story)-1] - '0'), impl.OK
}

func (m modelFates) entries(id int) ([]impl.Entry, int) {
	if !m.valid {
		return nil, impl.ErrBad
	}
	return slices.DeleteFunc(slices.Clone(m.pipe.Log), func(x impl.Entry) bool { return x.Id != id }), impl.OK
}

// everyId returns the code that comes before all others in the functions that
// go through all Ids.
func (m modelFates) everyId() int {
	if !m.valid {
		return impl.ErrBad
	}
	if m.pipe.Next-1 >= 4096 {
		return impl.ErrMany
	}
	return impl.OK
}

func (m modelFates) ids(kind int) ([]int, int) {
	if code := m.everyId(); code != impl.OK {
		return nil, code
	}
	if kind <= 0 || kind >= 8 {
		return nil, impl.ErrKind
	}
	var ids []int
	for id, story := range m.stories {
		if strings.HasSuffix(story, string(rune('0'+kind))) {
			ids = append(ids, id)
		}
	}
	return slices.Sorted(slices.Values(ids)), impl.OK
}

func (m modelFates) counts() ([]int, int) {
	if code := m.everyId(); code != impl.OK {
		return nil, code
	}
	var counts []int
	for kind := 1; kind <= 7; kind++ {
		ids, _ := m.ids(kind)
		counts = append(counts, len(ids))
	}
	return counts, impl.OK
}

// queued puts each Id in its place.
func (m modelFates) queued() ([]int, int) {
	if !m.valid {
		return nil, impl.ErrBad
	}
	ids := []int{}
	for _, c := range m.pipe.Channels {
		for _, r := range c.Queue.Items {
			place, _ := slices.BinarySearch(ids, r.Id)
			ids = slices.Insert(ids, place, r.Id)
		}
	}
	return ids, impl.OK
}

func (m modelFates) oneFate() (bool, int) {
	if code := m.everyId(); code != impl.OK {
		return false, code
	}
	places := map[int]int{}
	ids, _ := m.queued()
	for _, id := range ids {
		places[id]++
	}
	for id := m.pipe.Next - 1; id > 0; id-- {
		queued := 0
		if m.stories[id] == "1" {
			queued = 1
		}
		if !modelStory.MatchString(m.stories[id]) || places[id] != queued {
			return false, impl.OK
		}
	}
	return true, impl.OK
}

// matchesFates compares what is told of a pipeline with the model.
func matchesFates(t *testing.T, p impl.Pipe) {
	t.Helper()
	m := modelFatesOf(p)
	ids := []int{-1, 0, 1, 2, 3, p.Next - 1, p.Next, p.Next + 1}
	for _, x := range newest(p.Log, 5) {
		ids = append(ids, x.Id)
	}
	for _, id := range ids {
		matchesFate(t, m, id)
	}
	for kind := -1; kind <= 8; kind++ {
		got, code := impl.IdsOf(p, kind)
		if want, wantCode := m.ids(kind); !slices.Equal(got, want) || code != wantCode {
			t.Errorf("IdsOf(%s, %d) = %v, %d, not %v, %d", briefPipe(p), kind, got, code, want, wantCode)
		}
	}
	counts, code := impl.CountFates(p)
	if want, wantCode := m.counts(); !slices.Equal(counts, want) || code != wantCode {
		t.Errorf("CountFates(%s) = %v, %d, not %v, %d", briefPipe(p), counts, code, want, wantCode)
	}
	queued, code := impl.QueuedNow(p)
	if want, wantCode := m.queued(); !slices.Equal(queued, want) || code != wantCode {
		t.Errorf("QueuedNow(%s) = %v, %d, not %v, %d", briefPipe(p), queued, code, want, wantCode)
	}
	yes, code := impl.OneFate(p)
	if want, wantCode := m.oneFate(); yes != want || code != wantCode {
		t.Errorf("OneFate(%s) = %v, %d, not %v, %d", briefPipe(p), yes, code, want, wantCode)
	}
}

func matchesFate(t *testing.T, m modelFates, id int) {
	t.Helper()
	fate, code := impl.FateOf(m.pipe, id)
	if want, wantCode := m.fate(id); fate != want || code != wantCode {
		t.Errorf("FateOf(%s, %d) = %d, %d, not %d, %d", briefPipe(m.pipe), id, fate, code, want, wantCode)
	}
	list, code := impl.EntriesOf(m.pipe, id)
	if want, wantCode := m.entries(id); !slices.Equal(list, want) || code != wantCode {
		t.Errorf("EntriesOf(%s, %d) = %v, %d, not %v, %d", briefPipe(m.pipe), id, list, code, want, wantCode)
	}
}

// randomTale returns a valid pipeline whose reports have stories, in turn with
// one another, that are most often right.
func randomTale(r *rand.Rand) impl.Pipe {
	p := impl.Pipe{Now: 100, Next: 1 + r.Intn(9)}
	var left [][]int
	queues := make([][]int, r.Intn(4))
	for id := 1; id < p.Next; id++ {
		story := []string{"1", "1", "12", "13", "14", "15", "6", "7"}[r.Intn(8)]
		inQueue := story == "1"
		switch r.Intn(40) {
		case 0:
			story = randomStory(r)
		case 1:
			inQueue = !inQueue
		case 2:
			if len(queues) > 0 {
				i := r.Intn(len(queues))
				queues[i] = append(queues[i], id)
			}
		}
		if i := r.Intn(len(queues) + 1); inQueue && i < len(queues) {
			queues[i] = append(queues[i], id)
		}
		for _, kind := range story {
			left = append(left, []int{int(kind - '0'), id})
		}
	}
	for i, k := range r.Perm(len(left)) {
		p.Log = append(p.Log, entry(left[k][0], left[k][1], i))
	}
	if r.Intn(4) > 0 {
		slices.SortStableFunc(p.Log, func(a, b impl.Entry) int { return a.Kind - b.Kind })
		for i := range p.Log {
			p.Log[i].At = i
		}
	}
	for i, ids := range queues {
		queues[i] = slices.Compact(ids)[:min(len(slices.Compact(ids)), 5)]
	}
	return holding(p, queues...)
}

func randomStory(r *rand.Rand) string {
	story := ""
	for range r.Intn(4) {
		story += string(rune('1' + r.Intn(7)))
	}
	return story
}

// TestModelOfFates asks for fates in pipelines that events have led to, in such
// that were changed, and in tales.
func TestModelOfFates(t *testing.T) {
	r := rand.New(rand.NewSource(91))
	counts := map[string]int{}
	for i := range 12000 {
		p := randomTale(r)
		if i%6 == 0 {
			p = randomPipe(r)
		}
		for range i / 6 % 3 {
			p = changedPipe(r, p)
		}
		matchesFates(t, p)
		if t.Failed() {
			return
		}
		yes, code := modelFatesOf(p).oneFate()
		switch {
		case yes:
			counts["one fate"]++
		case code != impl.OK:
			counts["refused"]++
		default:
			counts["not one fate"]++
		}
	}
	for what, least := range map[string]int{"one fate": 1500, "refused": 1500, "not one fate": 1500} {
		if counts[what] < least {
			t.Errorf("%s: only %d of %v", what, counts[what], counts)
		}
	}
}

// bearer knows the story of each report without the log: from what the queues
// hold before and after an event, and from its Kind and its outcome.
type bearer struct {
	pipe    impl.Pipe
	stories map[int]string
}

func (b *bearer) do(t *testing.T, e impl.Event) {
	t.Helper()
	before := b.pipe
	p, outcome := taken(t, before, e)
	b.pipe = p
	if p.Next > before.Next {
		b.stories[before.Next] = map[int]string{impl.OK: "1", impl.ErrAgain: "6", impl.ErrName: "7"}[outcome]
	}
	end := map[int]string{impl.EvViolation: "3", impl.EvTick: "4", impl.EvSend: "5"}[e.Kind]
	if e.Kind == impl.EvSend && outcome == impl.OK {
		end = "2"
	}
	left := heldIds(p)
	for id := range heldIds(before) {
		if !left[id] {
			b.stories[id] += end
		}
	}
}

func heldIds(p impl.Pipe) map[int]bool {
	held := map[int]bool{}
	for _, c := range p.Channels {
		for _, r := range c.Queue.Items {
			held[r.Id] = true
		}
	}
	return held
}

// check compares what the program tells of all reports together with the
// stories.
func (b *bearer) check(t *testing.T) {
	t.Helper()
	byFate := make([][]int, 8)
	for _, id := range slices.Sorted(maps.Keys(b.stories)) {
		story := b.stories[id]
		fate := story[len(story)-1] - '0'
		byFate[fate] = append(byFate[fate], id)
	}
	var counts []int
	for kind := 1; kind <= 7; kind++ {
		hasIds(t, b.pipe, kind, byFate[kind]...)
		counts = append(counts, len(byFate[kind]))
	}
	hasCounts(t, b.pipe, counts...)
	hasQueued(t, b.pipe, byFate[impl.FaQueued]...)
	oneFate(t, b.pipe, true)
	if len(b.stories) != b.pipe.Next-1 {
		t.Errorf("%s: %d reports have a fate", briefPipe(b.pipe), len(b.stories))
	}
}

// checkReport compares what the program tells of one report with its story, and
// returns the number of its entries.
func (b *bearer) checkReport(t *testing.T, id int) int {
	t.Helper()
	list, code := impl.EntriesOf(b.pipe, id)
	if code != impl.OK {
		t.Errorf("EntriesOf(%s, %d): code %d", briefPipe(b.pipe), id, code)
	}
	told := ""
	for _, x := range list {
		if told += string(rune('0' + x.Kind)); x.Id != id {
			t.Errorf("EntriesOf(%s, %d) = %v", briefPipe(b.pipe), id, list)
		}
	}
	if told != b.stories[id] {
		t.Errorf("EntriesOf(%s, %d) = %v, not %q", briefPipe(b.pipe), id, list, b.stories[id])
	}
	if told != "" {
		hasFate(t, b.pipe, id, list[len(list)-1].Kind)
	}
	return len(list)
}

// TestPromise9 does long sequences of events, after each of which every report
// has exactly one fate: that which the queues and the outcomes tell.
func TestPromise9(t *testing.T) {
	r := rand.New(rand.NewSource(92))
	stories := map[string]int{}
	for i := range 150 {
		b := &bearer{pipe: impl.NewPipe(), stories: map[int]string{}}
		b.pipe.Now = []int{0, 0, impl.MaxNow - 200}[r.Intn(3)]
		for _, e := range eventsOf(r, 150, i%3 > 0)[i%4:] {
			b.do(t, e)
			b.check(t)
			for range 3 {
				b.checkReport(t, 1+r.Intn(b.pipe.Next))
			}
			if t.Failed() {
				t.Fatalf("after %s", briefEvent(e))
			}
		}
		entries := 0
		for id := 1; id < b.pipe.Next; id++ {
			entries += b.checkReport(t, id)
			stories[b.stories[id]]++
		}
		if entries != len(b.pipe.Log) {
			t.Errorf("%s: %d entries are those of a report", briefPipe(b.pipe), entries)
		}
	}
	for _, story := range []string{"1", "12", "13", "14", "15", "6", "7"} {
		if stories[story] < 50 {
			t.Errorf("only %d reports have the story %q", stories[story], story)
		}
	}
	if len(stories) != 7 {
		t.Errorf("stories: %v", stories)
	}
}

// TestFatesOfFullLogs goes on until no event is done any more: up to then, and
// in the end, every report has one fate.
func TestFatesOfFullLogs(t *testing.T) {
	r := rand.New(rand.NewSource(93))
	for _, busy := range []bool{false, true} {
		p := impl.NewPipe()
		code, steps := impl.OK, 0
		for code == impl.OK {
			for _, e := range eventsOf(r, 400, busy) {
				if p, _, code = impl.DoEvent(p, e); code == impl.OK {
					steps++
				}
			}
			oneFate(t, p, true)
		}
		counts, _ := impl.CountFates(p)
		sum := 0
		for _, n := range counts {
			sum += n
		}
		if code != impl.ErrFull || len(p.Log) <= 4071 && len(p.Wires) < 4096 || sum != p.Next-1 || slices.Contains(counts[1:], 0) {
			t.Errorf("after %d events: %s, code %d, counts %v", steps, briefPipe(p), code, counts)
		}
	}
}
