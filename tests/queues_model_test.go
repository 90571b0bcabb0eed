package tests

import (
	"math/rand"
	"slices"
	"strings"
	"testing"

	"loop.example/g00779/impl"
)

// The model reads chapter 7 a second time. Where the program moves reports
// through a ring, the model asks of each report on its own whether it stays,
// and cuts what is too much off a longer list. A list is in order if sorting
// does not change it, and without equal elements if a set of it is as large.

func modelReportOK(r impl.Report) bool {
	return min(r.Id-1, r.Born, r.Tries, len(r.Body)-1) >= 0 &&
		max(r.Id, r.Born) <= 1000000 && r.Tries <= 3 && len(r.Body) <= 8000
}

func modelQueueOK(q impl.Queue) bool {
	ids, texts := map[int]bool{}, map[string]bool{}
	for _, r := range q.Items {
		if !modelReportOK(r) {
			return false
		}
		ids[r.Id] = true
	}
	for _, body := range q.Recent {
		if !modelReportOK(report(1, 0, 0, body)) {
			return false
		}
		texts[body] = true
	}
	return len(ids) == len(q.Items) && len(ids) <= 5 && len(texts) == len(q.Recent) && len(texts) <= 6 &&
		slices.IsSortedFunc(q.Items, func(a, b impl.Report) int { return a.Id - b.Id }) &&
		slices.IsSortedFunc(q.Items, func(a, b impl.Report) int { return a.Born - b.Born })
}

// newest returns the last n elements, or all if there are fewer.
func newest[T any](list []T, n int) []T { return list[max(0, len(list)-n):] }

func modelOffer(q impl.Queue, r impl.Report) (impl.Queue, bool, int, int) {
	if !modelQueueOK(q) || !modelReportOK(r) {
		return impl.Queue{}, false, 0, impl.ErrBad
	}
	// Two items are in order if a queue of them is valid.
	if !modelQueueOK(queue(nil, append(slices.Clone(newest(q.Items, 1)), r)...)) {
		return q, false, 0, impl.ErrOrder
	}
	for _, body := range q.Recent {
		if body == r.Body {
			return q, false, 0, impl.OK
		}
	}
	all := append(slices.Clone(q.Items), r)
	evicted := 0
	for _, x := range all[:len(all)-len(newest(all, 5))] {
		evicted = x.Id
	}
	return queue(newest(append(slices.Clone(q.Recent), r.Body), 6), newest(all, 5)...), true, evicted, impl.OK
}

// modelRemoval is what Expire, Settle and Missed do if their range is right:
// keep returns what becomes of the item at an index, and whether it stays.
func modelRemoval(q impl.Queue, inRange bool, keep func(int, impl.Report) (impl.Report, bool)) (impl.Queue, []int, int) {
	if !modelQueueOK(q) {
		return impl.Queue{}, nil, impl.ErrBad
	}
	if !inRange {
		return impl.Queue{}, nil, impl.ErrRange
	}
	left, ids := queue(q.Recent), []int{}
	for i, r := range q.Items {
		if x, stays := keep(i, r); stays {
			left.Items = append(left.Items, x)
		} else {
			ids = append(ids, x.Id)
		}
	}
	return left, ids, impl.OK
}

func modelExpire(q impl.Queue, now, age int) (impl.Queue, []int, int) {
	inRange := now >= 0 && now <= 1000000 && age >= 1 && age <= 100
	return modelRemoval(q, inRange, func(_ int, r impl.Report) (impl.Report, bool) { return r, now <= r.Born+age })
}

func modelInBatch(q impl.Queue, n int) bool { return n >= 0 && n <= 3 && n <= len(q.Items) }

func modelSettle(q impl.Queue, n int) (impl.Queue, []int, int) {
	return modelRemoval(q, modelInBatch(q, n), func(i int, r impl.Report) (impl.Report, bool) { return r, i >= n })
}

func modelMissed(q impl.Queue, n int) (impl.Queue, []int, int) {
	return modelRemoval(q, modelInBatch(q, n), func(i int, r impl.Report) (impl.Report, bool) {
		if i < n {
			r.Tries++
		}
		return r, r.Tries < 4
	})
}

// checkQueue compares every function with the model, and returns whether q is
// valid.
func checkQueue(t *testing.T, r *rand.Rand, q impl.Queue) bool {
	t.Helper()
	ok := modelQueueOK(q)
	if impl.QueueOK(q) != ok || impl.SameQueue(q, q) != ok {
		t.Errorf("QueueOK or SameQueue of %s is not %v", briefQueue(q), ok)
	}
	want, wantCode := newest([]impl.Report(nil), 0), impl.ErrBad
	if ok {
		want, wantCode = q.Items[:min(3, len(q.Items))], impl.OK
	}
	if list, code := impl.Batch(q); !sameItems(list, want) || code != wantCode {
		t.Errorf("Batch(%s) = %+v, %d", briefQueue(q), list, code)
	}
	for n := -1; n < 7; n++ {
		x, ids, code := modelSettle(q, n)
		hasResult(t, settle(n), q, x, ids, code)
		x, ids, code = modelMissed(q, n)
		hasResult(t, missed(n), q, x, ids, code)
	}
	for range 8 {
		now, age := randomNow(r, q), []int{0, 1, 2, 5, 99, 100, 101, r.Intn(100)}[r.Intn(8)]
		x, ids, code := modelExpire(q, now, age)
		hasResult(t, expire(now, age), q, x, ids, code)
		checkOffer(t, q, randomReport(r, q))
	}
	return ok
}

func hasResult(t *testing.T, call removal, q, want impl.Queue, wantIds []int, wantCode int) {
	t.Helper()
	x, ids, code := call(q)
	if !equalQueues(x, want) || !slices.Equal(ids, wantIds) || code != wantCode {
		t.Errorf("%s: got %s, %v, %d, not %s, %v, %d", briefQueue(q), briefQueue(x), ids, code, briefQueue(want), wantIds, wantCode)
	}
	if !impl.QueueOK(x) {
		t.Errorf("%s: got the invalid queue %s", briefQueue(q), briefQueue(x))
	}
}

func checkOffer(t *testing.T, q impl.Queue, r impl.Report) {
	t.Helper()
	if impl.ReportOK(r) != modelReportOK(r) {
		t.Errorf("ReportOK(%s) is not %v", briefReport(r), modelReportOK(r))
	}
	want, wantTaken, wantId, wantCode := modelOffer(q, r)
	x, taken, id, code := impl.Offer(q, r)
	if !equalQueues(x, want) || taken != wantTaken || id != wantId || code != wantCode {
		t.Errorf("Offer(%s, %s) = %s, %v, %d, %d, not %s, %v, %d, %d", briefQueue(q), briefReport(r), briefQueue(x), taken, id, code, briefQueue(want), wantTaken, wantId, wantCode)
	}
	if !impl.QueueOK(x) {
		t.Errorf("Offer(%s, %s) is the invalid queue %s", briefQueue(q), briefReport(r), briefQueue(x))
	}
}

// randomNow returns a number near a Born or a limit.
func randomNow(r *rand.Rand, q impl.Queue) int {
	if len(q.Items) > 0 && r.Intn(4) > 0 {
		return q.Items[r.Intn(len(q.Items))].Born + r.Intn(110) - 3
	}
	return []int{-1, 0, 1, 999999, 1000000, 1000001, r.Intn(1000)}[r.Intn(7)]
}

// randomBody returns one of a few bodies, and at times one at a limit.
func randomBody(r *rand.Rand) string {
	switch r.Intn(30) {
	case 0:
		return ""
	case 1:
		return strings.Repeat("x", 7999+r.Intn(3))
	}
	return string([]byte{byte('a' + r.Intn(20))})
}

// randomReport returns a report that is near q in all it has.
func randomReport(r *rand.Rand, q impl.Queue) impl.Report {
	x := report(r.Intn(4), r.Intn(4), r.Intn(4), randomBody(r))
	if len(q.Items) > 0 {
		near := q.Items[len(q.Items)-1-r.Intn(len(q.Items))/2]
		x.Id, x.Born = near.Id+r.Intn(6)-1, near.Born+r.Intn(6)-1
	}
	if len(q.Recent) > 0 && r.Intn(3) == 0 {
		x.Body = q.Recent[r.Intn(len(q.Recent))]
	}
	if r.Intn(10) == 0 {
		x.Tries = r.Intn(8) - 2
	}
	return x
}

func randomQueue(r *rand.Rand) impl.Queue {
	q := impl.Queue{}
	id, born := 1, 0
	for range r.Intn(6) {
		q.Items = append(q.Items, report(id, born, r.Intn(4), string([]byte{byte('a' + r.Intn(20))})))
		id, born = id+1+r.Intn(3), born+[]int{0, 0, 1, 2, 50, 100, 101}[r.Intn(7)]
	}
	for _, i := range r.Perm(20)[:r.Intn(7)] {
		q.Recent = append(q.Recent, string([]byte{byte('a' + i)}))
	}
	return q
}

// changedQueue changes q in one place, which need not make it invalid.
func changedQueue(r *rand.Rand, q impl.Queue) impl.Queue {
	q = queue(slices.Clone(q.Recent), slices.Clone(q.Items)...)
	number := []int{-1, 0, 1, 3, 4, 999999, 1000000, 1000001, r.Intn(10)}[r.Intn(9)]
	if len(q.Items) == 0 || r.Intn(4) == 0 {
		q.Items = append(q.Items, randomReport(r, q))
	}
	x := &q.Items[r.Intn(len(q.Items))]
	switch r.Intn(7) {
	case 0:
		x.Id = number
	case 1:
		x.Born = number
	case 2:
		x.Tries = number
	case 3:
		x.Body = randomBody(r)
	case 4:
		i, j := r.Intn(len(q.Items)), r.Intn(len(q.Items))
		q.Items[i], q.Items[j] = q.Items[j], q.Items[i]
	case 5:
		q.Recent = append(q.Recent, randomBody(r))
	case 6:
		if len(q.Recent) > 0 {
			q.Recent[r.Intn(len(q.Recent))] = randomBody(r)
		}
	}
	return q
}

func TestModelOfQueues(t *testing.T) {
	r := rand.New(rand.NewSource(51))
	valid, invalid := 0, 0
	for i := range 12000 {
		q := randomQueue(r)
		for range i % 4 {
			q = changedQueue(r, q)
		}
		if checkQueue(t, r, q) {
			valid++
		} else {
			invalid++
		}
		if t.Failed() {
			return
		}
	}
	if valid < 4000 || invalid < 4000 {
		t.Errorf("%d valid, %d invalid", valid, invalid)
	}
}

func TestModelOfSameQueues(t *testing.T) {
	r := rand.New(rand.NewSource(52))
	same, different, invalid := 0, 0, 0
	for i := range 12000 {
		a := randomQueue(r)
		b := queue(slices.Clone(a.Recent), slices.Clone(a.Items)...)
		for range i % 4 {
			b = changedQueue(r, b)
		}
		for _, pair := range [][2]impl.Queue{{a, b}, {b, a}, {b, b}} {
			ok := modelQueueOK(pair[0]) && modelQueueOK(pair[1])
			want := ok && equalQueues(pair[0], pair[1])
			if impl.SameQueue(pair[0], pair[1]) != want {
				t.Fatalf("SameQueue(%s, %s) is not %v", briefQueue(pair[0]), briefQueue(pair[1]), want)
			}
			switch {
			case !ok:
				invalid++
			case want:
				same++
			default:
				different++
			}
		}
	}
	if same < 3000 || different < 3000 || invalid < 3000 {
		t.Errorf("%d same, %d different, %d invalid", same, different, invalid)
	}
}

// history is all that happened to a queue that was empty at first.
type history struct {
	queue    impl.Queue
	now      int
	next     int
	accepted []impl.Report
	told     map[int]int
	turned   map[int]bool
}

func newHistory() *history {
	return &history{next: 1, told: map[int]int{}, turned: map[int]bool{}}
}

// offer offers a body under the next Id.
func (h *history) offer(t *testing.T, body string) {
	t.Helper()
	isRecent := slices.ContainsFunc(newest(h.accepted, 6), func(r impl.Report) bool { return r.Body == body })
	r := report(h.next, h.now, 0, body)
	x, taken, id, code := impl.Offer(h.queue, r)
	if taken == isRecent || code != impl.OK {
		t.Errorf("Offer(%s, %s): accepted %v, %d", briefQueue(h.queue), briefReport(r), taken, code)
	}
	oldest := 0
	if taken && len(h.queue.Items) == 5 {
		oldest = h.queue.Items[0].Id
	}
	if id != oldest {
		t.Errorf("Offer(%s, %s): evicted %d, not %d", briefQueue(h.queue), briefReport(r), id, oldest)
	}
	h.next++
	h.queue = x
	if !taken {
		h.turned[r.Id] = true
		return
	}
	h.accepted = append(h.accepted, r)
	if id != 0 {
		h.told[id]++
	}
}

func (h *history) remove(t *testing.T, call removal) {
	t.Helper()
	x, ids, code := call(h.queue)
	if code != impl.OK {
		t.Errorf("%s: code %d", briefQueue(h.queue), code)
	}
	for _, id := range ids {
		h.told[id]++
	}
	h.queue = x
}

// check: every Id that was accepted is in the queue or was told of once, no
// other Id is either, and the last bodies that were accepted are recent.
func (h *history) check(t *testing.T) {
	t.Helper()
	queued := map[int]int{}
	for _, r := range h.queue.Items {
		queued[r.Id]++
	}
	for _, r := range h.accepted {
		if h.told[r.Id]+queued[r.Id] != 1 {
			t.Errorf("report %d is told of %d times and queued %d times", r.Id, h.told[r.Id], queued[r.Id])
		}
	}
	for id := range h.turned {
		if h.told[id]+queued[id] != 0 {
			t.Errorf("report %d was not accepted and is told of %d times and queued %d times", id, h.told[id], queued[id])
		}
	}
	var recent []string
	for _, r := range newest(h.accepted, 6) {
		recent = append(recent, r.Body)
	}
	if !slices.Equal(h.queue.Recent, recent) || !impl.QueueOK(h.queue) || len(h.accepted) != len(h.told)+len(queued) {
		t.Errorf("%s: of %d reports, the recent bodies are %q", briefQueue(h.queue), len(h.accepted), recent)
	}
}

// TestPromise6 makes long sequences of calls. In some of them the queue fills
// up, and in others most of it is removed.
func TestPromise6(t *testing.T) {
	r := rand.New(rand.NewSource(53))
	evicted, expired, settled, exhausted, turned := 0, 0, 0, 0, 0
	for i := range 300 {
		h := newHistory()
		removals := 1 + i%6
		for range 200 {
			before := len(h.told)
			switch n := r.Intn(min(len(h.queue.Items), 3) + 1); r.Intn(12) {
			case 0:
				if removals > 1 {
					h.now = min(h.now+r.Intn(60), impl.MaxNow)
				}
				h.remove(t, expire(h.now, 1+r.Intn(100)))
				expired += len(h.told) - before
			case 1:
				if removals > 2 {
					h.remove(t, settle(n))
				}
				settled += len(h.told) - before
			case 2, 3, 4:
				if removals > 3 {
					h.remove(t, missed(n))
				}
				exhausted += len(h.told) - before
			default:
				h.offer(t, string([]byte{byte('a' + r.Intn(6+i%10))}))
				evicted += len(h.told) - before
			}
			h.check(t)
		}
		turned += len(h.turned)
		if t.Failed() {
			return
		}
	}
	if min(evicted, expired, settled, exhausted, turned) < 300 {
		t.Errorf("%d evicted, %d expired, %d settled, %d exhausted, %d not accepted", evicted, expired, settled, exhausted, turned)
	}
}

// TestPromise6InEveryOrder makes all sequences of a few calls.
func TestPromise6InEveryOrder(t *testing.T) {
	steps := []func(*history){
		func(h *history) { h.offer(t, "a") },
		func(h *history) { h.offer(t, string([]byte{byte('b' + h.next%20)})) },
		func(h *history) { h.now++; h.remove(t, expire(h.now, 1)) },
		func(h *history) { h.remove(t, settle(min(len(h.queue.Items), 1))) },
		func(h *history) { h.remove(t, missed(min(len(h.queue.Items), 2))) },
	}
	const length = 7
	for sequence := range power(5, length) {
		h := newHistory()
		// A queue that is nearly full shows more in a few steps.
		for i := range sequence % 2 * 4 {
			h.offer(t, string([]byte{byte('A' + i)}))
		}
		for code := range length {
			steps[sequence/power(5, code)%5](h)
		}
		h.check(t)
		if t.Failed() {
			return
		}
	}
}

func power(base, exponent int) int {
	n := 1
	for range exponent {
		n *= base
	}
	return n
}
