package tests

import (
	"fmt"
	"math"
	"slices"
	"strings"
	"testing"

	"loop.example/g00779/impl"
)

func report(id, born, tries int, body string) impl.Report {
	return impl.Report{Id: id, Born: born, Tries: tries, Body: body}
}

func queue(recent []string, items ...impl.Report) impl.Queue {
	return impl.Queue{Items: items, Recent: recent}
}

// items returns n reports with the Ids 10, 20 and so on, and Born 100, 200 and
// so on.
func items(n int) []impl.Report {
	var list []impl.Report
	for i := range n {
		list = append(list, report(10*(i+1), 100*(i+1), i%impl.MaxTries, string(rune('A'+i))))
	}
	return list
}

// bodies returns the first n bodies a, b and so on; none is that of one of
// items.
func bodies(n int) []string { return strings.Split("abcdefghijkl", "")[:n] }

// sized returns a queue that has as many items and recent bodies.
func sized(itemCount, recentCount int) impl.Queue {
	return queue(bodies(recentCount), items(itemCount)...)
}

// sameItems compares without the program.
func sameItems(a, b []impl.Report) bool { return slices.Equal(a, b) }

func equalQueues(a, b impl.Queue) bool {
	return sameItems(a.Items, b.Items) && slices.Equal(a.Recent, b.Recent)
}

func isNoQueue(q impl.Queue) bool { return len(q.Items) == 0 && len(q.Recent) == 0 }

func briefQueue(q impl.Queue) string {
	return fmt.Sprintf("%d items, %d recent: %.400q", len(q.Items), len(q.Recent), fmt.Sprintf("%+v", q))
}

func briefReport(r impl.Report) string { return fmt.Sprintf("%.200q", fmt.Sprintf("%+v", r)) }

// accepts checks that Offer accepts r and returns the queue and the Id of the
// evicted report.
func accepts(t *testing.T, q impl.Queue, r impl.Report, evicted int, want impl.Queue) {
	t.Helper()
	x, ok, id, code := impl.Offer(q, r)
	if !equalQueues(x, want) || !ok || id != evicted || code != impl.OK {
		t.Errorf("Offer(%s, %s) = %s, %v, %d, %d, not %s, evicted %d", briefQueue(q), briefReport(r), briefQueue(x), ok, id, code, briefQueue(want), evicted)
	}
}

// rejects checks that Offer does not accept r and returns q as it is, with a
// code.
func rejects(t *testing.T, q impl.Queue, r impl.Report, want int) {
	t.Helper()
	x, ok, id, code := impl.Offer(q, r)
	if !equalQueues(x, q) || ok || id != 0 || code != want {
		t.Errorf("Offer(%s, %s) = %s, %v, %d, %d, not the queue and %d", briefQueue(q), briefReport(r), briefQueue(x), ok, id, code, want)
	}
}

func refusesOffer(t *testing.T, q impl.Queue, r impl.Report) {
	t.Helper()
	x, ok, id, code := impl.Offer(q, r)
	if !isNoQueue(x) || ok || id != 0 || code != impl.ErrBad {
		t.Errorf("Offer(%s, %s) = %s, %v, %d, %d, not ErrBad", briefQueue(q), briefReport(r), briefQueue(x), ok, id, code)
	}
}

// removal is a call of Expire, Settle or Missed.
type removal func(impl.Queue) (impl.Queue, []int, int)

func expire(now, age int) removal {
	return func(q impl.Queue) (impl.Queue, []int, int) { return impl.Expire(q, now, age) }
}

func settle(n int) removal {
	return func(q impl.Queue) (impl.Queue, []int, int) { return impl.Settle(q, n) }
}

func missed(n int) removal {
	return func(q impl.Queue) (impl.Queue, []int, int) { return impl.Missed(q, n) }
}

// removes checks that a call leaves the items that are wanted, keeps what is
// recent, and returns the Ids.
func removes(t *testing.T, call removal, q impl.Queue, want []impl.Report, ids ...int) {
	t.Helper()
	x, removed, code := call(q)
	if !sameItems(x.Items, want) || !slices.Equal(x.Recent, q.Recent) || !slices.Equal(removed, ids) || code != impl.OK {
		t.Errorf("%s: got %s, %v, %d, not %+v, %v", briefQueue(q), briefQueue(x), removed, code, want, ids)
	}
}

func refusesRemoval(t *testing.T, call removal, q impl.Queue, want int) {
	t.Helper()
	x, removed, code := call(q)
	if !isNoQueue(x) || len(removed) != 0 || code != want {
		t.Errorf("%s: got %s, %v, %d, not the code %d", briefQueue(q), briefQueue(x), removed, code, want)
	}
}

func hasBatch(t *testing.T, q impl.Queue, want ...impl.Report) {
	t.Helper()
	if list, code := impl.Batch(q); !sameItems(list, want) || code != impl.OK {
		t.Errorf("Batch(%s) = %+v, %d, not %+v", briefQueue(q), list, code, want)
	}
}

// isQueue checks that every function takes a valid queue.
func isQueue(t *testing.T, q impl.Queue) {
	t.Helper()
	if !impl.QueueOK(q) || !impl.SameQueue(q, q) {
		t.Errorf("%s is valid", briefQueue(q))
	}
	hasBatch(t, q, q.Items[:min(len(q.Items), 3)]...)
	for _, call := range []removal{settle(0), missed(0), expire(0, 1)} {
		removes(t, call, q, q.Items)
	}
	if _, _, _, code := impl.Offer(q, report(impl.MaxNow, impl.MaxNow, 0, "offered")); code == impl.ErrBad {
		t.Errorf("Offer: %s is valid", briefQueue(q))
	}
}

// noQueue checks that every function refuses an invalid queue, whatever the
// other arguments are.
func noQueue(t *testing.T, q impl.Queue) {
	t.Helper()
	if impl.QueueOK(q) {
		t.Errorf("QueueOK: %s is invalid", briefQueue(q))
	}
	for _, other := range []impl.Queue{{}, sized(3, 3)} {
		if impl.SameQueue(q, q) || impl.SameQueue(q, other) || impl.SameQueue(other, q) {
			t.Errorf("SameQueue: %s is invalid", briefQueue(q))
		}
	}
	if list, code := impl.Batch(q); len(list) != 0 || code != impl.ErrBad {
		t.Errorf("Batch(%s) = %d reports, %d", briefQueue(q), len(list), code)
	}
	for _, r := range []impl.Report{{}, report(1, 0, 0, "a"), report(impl.MaxNow, impl.MaxNow, 0, "offered")} {
		refusesOffer(t, q, r)
	}
	for _, n := range []int{-1, 0, 1, 3, 4, 6} {
		refusesRemoval(t, settle(n), q, impl.ErrBad)
		refusesRemoval(t, missed(n), q, impl.ErrBad)
	}
	for _, n := range []int{-1, 0, 1, 100, impl.MaxNow, impl.MaxNow + 1} {
		refusesRemoval(t, expire(n, 1), q, impl.ErrBad)
		refusesRemoval(t, expire(n, 0), q, impl.ErrBad)
		refusesRemoval(t, expire(0, n), q, impl.ErrBad)
	}
}

// isReport checks a valid report alone, offered, and in every place of a queue
// where its neighbours allow it.
func isReport(t *testing.T, r impl.Report) {
	t.Helper()
	if !impl.ReportOK(r) {
		t.Errorf("ReportOK: %s is valid", briefReport(r))
	}
	isQueue(t, queue(nil, r))
	accepts(t, impl.Queue{}, r, 0, queue([]string{r.Body}, r))
	if r.Id > 1 {
		isQueue(t, queue(nil, report(r.Id-1, r.Born, 0, "x"), r))
	}
	if r.Id < impl.MaxNow {
		isQueue(t, queue(nil, r, report(r.Id+1, r.Born, 0, "x")))
	}
}

func noReport(t *testing.T, r impl.Report) {
	t.Helper()
	if impl.ReportOK(r) {
		t.Errorf("ReportOK: %s is invalid", briefReport(r))
	}
	refusesOffer(t, impl.Queue{}, r)
	refusesOffer(t, sized(5, 6), r)
	for i := range impl.MaxQueue {
		list := items(impl.MaxQueue)
		list[i] = r
		noQueue(t, queue(nil, list[:i+1]...))
		noQueue(t, queue(nil, list...))
	}
}

func TestQueueConstants(t *testing.T) {
	if impl.MaxQueue != 5 || impl.MaxWindow != 6 || impl.MaxTries != 4 || impl.MaxBatch != 3 || impl.MaxBody != 8000 || impl.MaxNow != 1000000 {
		t.Error("a constant of chapter 7 is wrong")
	}
}

func TestReportFields(t *testing.T) {
	far := []int{math.MinInt, -1 << 32, -2, 1<<32 + 1, math.MaxInt}
	for _, id := range []int{1, 2, 999999, 1000000} {
		isReport(t, report(id, 5, 0, "a"))
	}
	for _, id := range append(far, -1, 0, 1000001) {
		noReport(t, report(id, 5, 0, "a"))
	}
	for _, born := range []int{0, 1, 999999, 1000000} {
		isReport(t, report(7, born, 0, "a"))
	}
	for _, born := range append(far, -1, 1000001) {
		noReport(t, report(7, born, 0, "a"))
	}
	for _, tries := range []int{0, 1, 2, 3} {
		isReport(t, report(7, 5, tries, "a"))
	}
	for _, tries := range append(far, -1, 4, 5) {
		noReport(t, report(7, 5, tries, "a"))
	}
	for _, n := range []int{1, 2, 7999, 8000} {
		isReport(t, report(7, 5, 0, strings.Repeat("a", n)))
		isReport(t, report(7, 5, 0, strings.Repeat("\xff", n)))
	}
	for _, n := range []int{0, 8001, 8002, 16000, impl.MaxText, impl.MaxText + 1, 1 << 20} {
		noReport(t, report(7, 5, 0, strings.Repeat("a", n)))
	}
	isReport(t, report(1000000, 1000000, 3, strings.Repeat("a", 8000)))
	isReport(t, report(1, 0, 0, "\x00"))
	noReport(t, impl.Report{})
	noReport(t, report(0, -1, 4, ""))
}

func TestQueueCounts(t *testing.T) {
	for i := range 12 {
		for j := range 12 {
			if q := sized(i, j); i <= 5 && j <= 6 {
				isQueue(t, q)
			} else {
				noQueue(t, q)
			}
		}
	}
	for _, n := range []int{impl.MaxList, impl.MaxList + 1, 1 << 16} {
		noQueue(t, queue(nil, make([]impl.Report, n)...))
		noQueue(t, queue(make([]string, n)))
	}
}

// TestOrderOfItems: Ids increase strictly, Born need not.
func TestOrderOfItems(t *testing.T) {
	for place := 1; place < impl.MaxQueue; place++ {
		for _, id := range []int{-1, 0, 1, 9} {
			for _, born := range []int{-1, 0, 1, 99} {
				list := items(impl.MaxQueue)
				last := list[place-1]
				list[place].Id, list[place].Born = last.Id+id, last.Born+born
				for _, q := range []impl.Queue{queue(nil, list...), queue(nil, list[place-1:place+1]...)} {
					if id > 0 && born >= 0 {
						isQueue(t, q)
					} else {
						noQueue(t, q)
					}
				}
			}
		}
	}
	// Neighbours in order are not enough for the ends if one of them is not.
	noQueue(t, queue(nil, report(2, 0, 0, "a"), report(3, 0, 0, "b"), report(1, 0, 0, "c"), report(4, 0, 0, "d")))
	noQueue(t, queue(nil, report(1, 3, 0, "a"), report(2, 5, 0, "b"), report(3, 4, 0, "c"), report(4, 6, 0, "d")))
	noQueue(t, queue(nil, slices.Repeat([]impl.Report{report(1, 0, 0, "a")}, 2)...))
	isQueue(t, queue(nil, report(1, 0, 3, "a"), report(2, 0, 2, "a"), report(1000000, 0, 1, "a")))
	isQueue(t, queue(nil, report(999999, 0, 0, "a"), report(1000000, 1000000, 0, "b")))
}

func TestRecentBodies(t *testing.T) {
	long := strings.Repeat("a", 8000)
	for n := 1; n <= impl.MaxWindow; n++ {
		for i := range n {
			for _, body := range []string{"x", "\x00", "\xff", long} {
				recent := bodies(n)
				recent[i] = body
				isQueue(t, queue(recent))
				isQueue(t, queue(recent, items(5)...))
			}
			for _, body := range []string{"", long + "a", strings.Repeat("b", 1<<20)} {
				recent := bodies(n)
				recent[i] = body
				noQueue(t, queue(recent))
				noQueue(t, queue(recent, items(5)...))
			}
			for j := range i {
				recent := bodies(n)
				recent[i] = recent[j]
				noQueue(t, queue(recent))
				noQueue(t, queue(recent, items(5)...))
			}
		}
	}
}

// TestBodiesThatAreAlmostEqual: bodies are compared byte by byte, to their end.
func TestBodiesThatAreAlmostEqual(t *testing.T) {
	long := strings.Repeat("a", 7999)
	for _, pair := range [][2]string{
		{"a", "A"}, {"a", "a "}, {"a", " a"}, {"a", "aa"}, {"a", "a\x00"}, {"\xff", "\xfe"}, {"\xff", "\ufffd"}, {"k", "\u212a"}, {"\u00e9", "e\u0301"},
		{"{}", "{ }"}, {long + "a", long + "b"}, {long, long + "a"}, {"b" + long, "c" + long},
	} {
		isQueue(t, queue(pair[:]))
		for i, body := range pair {
			q := queue([]string{pair[1-i]})
			accepts(t, q, report(1, 0, 0, body), 0, queue([]string{pair[1-i], body}, report(1, 0, 0, body)))
			rejects(t, queue([]string{body}), report(1, 0, 0, strings.Clone(body)), impl.OK)
		}
	}
}

func TestEveryByteInBodies(t *testing.T) {
	for c := range 256 {
		body := string([]byte{byte(c)})
		isReport(t, report(1, 0, 0, body))
		for d := range 256 {
			other := string([]byte{byte(d)})
			for _, q := range []impl.Queue{queue([]string{other}), queue([]string{"ab", other + "yz", "x" + other, other})} {
				if r := report(1, 0, 0, body); c == d {
					rejects(t, q, r, impl.OK)
				} else {
					accepts(t, q, r, 0, queue(append(slices.Clone(q.Recent), body), r))
				}
			}
		}
	}
}

// TestOffer offers a new report to queues of every size.
func TestOffer(t *testing.T) {
	for i := range impl.MaxQueue + 1 {
		for j := range impl.MaxWindow + 1 {
			q, r := sized(i, j), report(70, 700, 2, "new")
			want, evicted := queue(append(bodies(j), "new"), append(items(i), r)...), 0
			if i == impl.MaxQueue {
				want.Items, evicted = want.Items[1:], 10
			}
			if j == impl.MaxWindow {
				want.Recent = want.Recent[1:]
			}
			accepts(t, q, r, evicted, want)
		}
	}
}

func TestOfferExamples(t *testing.T) {
	a, b, c, d, e, f := report(1, 0, 0, "a"), report(2, 0, 1, "b"), report(3, 1, 2, "c"), report(4, 1, 3, "d"), report(5, 1, 0, "e"), report(6, 9, 0, "f")
	accepts(t, impl.Queue{}, a, 0, queue([]string{"a"}, a))
	accepts(t, queue([]string{"a", "b", "c", "d"}, a, b, c, d), e, 0, queue([]string{"a", "b", "c", "d", "e"}, a, b, c, d, e))
	accepts(t, queue([]string{"a", "b", "c", "d", "e"}, a, b, c, d, e), f, 1, queue([]string{"a", "b", "c", "d", "e", "f"}, b, c, d, e, f))
	accepts(t, queue([]string{"1", "2", "3", "4", "5", "6"}, b, c, d, e, f), report(9, 9, 0, "g"), 2, queue([]string{"2", "3", "4", "5", "6", "g"}, c, d, e, f, report(9, 9, 0, "g")))
	rejects(t, queue([]string{"a", "b", "c", "d", "e"}, a, b, c, d, e), report(6, 9, 0, "e"), impl.OK)
	rejects(t, queue([]string{"a"}), a, impl.OK)
}

// TestOfferOfRecentBodies: a body in any place of Recent is not accepted, even
// if no item has it and even if there is room.
func TestOfferOfRecentBodies(t *testing.T) {
	for i := range impl.MaxQueue + 1 {
		for j := range impl.MaxWindow + 1 {
			q := sized(i, j)
			for _, body := range q.Recent {
				rejects(t, q, report(70, 700, 0, body), impl.OK)
				rejects(t, q, report(impl.MaxNow, impl.MaxNow, 3, body), impl.OK)
			}
		}
	}
}

// TestOfferOfBodiesOfItems: the body of an item counts only if it is recent.
func TestOfferOfBodiesOfItems(t *testing.T) {
	q := sized(5, 6)
	for i, item := range q.Items {
		r := report(70, 700, 0, item.Body)
		accepts(t, q, r, 10, queue(append(bodies(6)[1:], item.Body), append(items(5)[1:], r)...))
		recent := bodies(6)
		recent[i] = item.Body
		rejects(t, queue(recent, q.Items...), r, impl.OK)
	}
	accepts(t, queue(nil, report(1, 0, 0, "a")), report(2, 0, 0, "a"), 0, queue([]string{"a"}, report(1, 0, 0, "a"), report(2, 0, 0, "a")))
}

// TestBodiesThatLeaveTheWindow offers bodies in turn: one is accepted again as
// soon as six others were accepted after it, and not before.
func TestBodiesThatLeaveTheWindow(t *testing.T) {
	q, names := impl.Queue{}, strings.Split("abcdefg", "")
	for i := range 40 {
		for back := 1; back <= min(i, impl.MaxWindow); back++ {
			rejects(t, q, report(i+1, i, 0, names[(i-back)%7]), impl.OK)
		}
		x, ok, _, code := impl.Offer(q, report(i+1, i, 0, names[i%7]))
		if !ok || code != impl.OK {
			t.Fatalf("report %d is not accepted: %d", i+1, code)
		}
		q = x
	}
	// A report that is not accepted moves nothing out of the window.
	full := queue(bodies(6))
	for range 10 {
		full, _, _, _ = impl.Offer(full, report(1, 0, 0, "f"))
	}
	rejects(t, full, report(1, 0, 0, "a"), impl.OK)
}

func TestOrderOfOffers(t *testing.T) {
	for i := 1; i <= impl.MaxQueue; i++ {
		for j := range impl.MaxWindow + 1 {
			q := sized(i, j)
			last := q.Items[i-1]
			for _, id := range []int{1, 9, last.Id - 1, last.Id, last.Id + 1, impl.MaxNow} {
				for _, born := range []int{0, 99, last.Born - 1, last.Born, last.Born + 1, impl.MaxNow} {
					r := report(id, born, 1, "new")
					if id <= last.Id || born < last.Born {
						rejects(t, q, r, impl.ErrOrder)
						continue
					}
					if x, ok, _, code := impl.Offer(q, r); !ok || code != impl.OK || x.Items[len(x.Items)-1] != r {
						t.Errorf("Offer(%s, %s) = %s, %v, %d", briefQueue(q), briefReport(r), briefQueue(x), ok, code)
					}
				}
			}
		}
	}
	// Only an item is before another one: a queue without items has any order.
	accepts(t, queue(bodies(1)), report(1, 0, 0, "new"), 0, queue([]string{"a", "new"}, report(1, 0, 0, "new")))
	x, _, _ := impl.Settle(sized(3, 0), 3)
	accepts(t, x, report(1, 0, 0, "new"), 0, queue([]string{"new"}, report(1, 0, 0, "new")))
}

// TestSeveralErrorsOfOffers: ErrBad is first, and a report out of order is an
// error also if its body is recent.
func TestSeveralErrorsOfOffers(t *testing.T) {
	q := sized(5, 6)
	for _, body := range []string{"a", "c", "f", "new"} {
		rejects(t, q, report(50, 700, 0, body), impl.ErrOrder)
		rejects(t, q, report(1, 700, 0, body), impl.ErrOrder)
		rejects(t, q, report(70, 499, 0, body), impl.ErrOrder)
		refusesOffer(t, q, report(50, 499, 4, body))
		refusesOffer(t, q, report(0, 700, 0, body))
		refusesOffer(t, q, report(70, -1, 0, body))
		refusesOffer(t, queue([]string{"a", "a"}, q.Items...), report(70, 700, 0, body))
		refusesOffer(t, queue([]string{"a", "a"}, q.Items...), report(50, 499, 0, body))
	}
	refusesOffer(t, q, report(50, 499, 0, ""))
}

func TestExpire(t *testing.T) {
	for i := range impl.MaxQueue + 1 {
		q := sized(i, 6)
		for removed := range i + 1 {
			var ids []int
			for _, item := range q.Items[:removed] {
				ids = append(ids, item.Id)
			}
			for _, age := range []int{1, 50, 99} {
				// One more would make the next item too old, one less would leave
				// the last of the removed ones.
				removes(t, expire(100*removed+age+1, age), q, q.Items[removed:], ids...)
				removes(t, expire(100*removed+100+age, age), q, q.Items[removed:], ids...)
			}
		}
	}
}

// TestExpireAges: an item of exactly the age stays.
func TestExpireAges(t *testing.T) {
	for _, born := range []int{0, 1, 500, impl.MaxNow - 101, impl.MaxNow - 2, impl.MaxNow - 1, impl.MaxNow} {
		q := queue([]string{"x"}, report(7, born, 3, "a"))
		for age := 1; age <= impl.MaxAge; age++ {
			for _, now := range []int{0, born - 1, born, born + 1, born + age - 1, born + age, born + age + 1, born + 1000, impl.MaxNow} {
				switch {
				case now < 0 || now > impl.MaxNow:
					refusesRemoval(t, expire(now, age), q, impl.ErrRange)
				case now > born+age:
					removes(t, expire(now, age), q, nil, 7)
				default:
					removes(t, expire(now, age), q, q.Items)
				}
			}
		}
	}
}

func TestExpireOfEqualBorn(t *testing.T) {
	q := queue(nil, report(1, 5, 0, "a"), report(2, 5, 0, "b"), report(3, 5, 0, "c"), report(4, 6, 0, "d"), report(5, 6, 0, "e"))
	removes(t, expire(8, 3), q, q.Items)
	removes(t, expire(9, 3), q, q.Items[3:], 1, 2, 3)
	removes(t, expire(10, 3), q, nil, 1, 2, 3, 4, 5)
	removes(t, expire(4, 1), q, q.Items)
	removes(t, expire(0, 100), q, q.Items)
}

func TestExpireRanges(t *testing.T) {
	bad := []int{math.MinInt, math.MinInt + 1, -1 << 32, -1, 1<<32 + 1, math.MaxInt}
	for _, q := range []impl.Queue{{}, sized(1, 0), sized(0, 6), sized(5, 6)} {
		for _, now := range append(bad, impl.MaxNow+1) {
			refusesRemoval(t, expire(now, 1), q, impl.ErrRange)
			refusesRemoval(t, expire(now, 100), q, impl.ErrRange)
			refusesRemoval(t, expire(now, 0), q, impl.ErrRange)
		}
		for _, age := range append(bad, 0, 101) {
			refusesRemoval(t, expire(0, age), q, impl.ErrRange)
			refusesRemoval(t, expire(impl.MaxNow, age), q, impl.ErrRange)
			refusesRemoval(t, expire(-1, age), q, impl.ErrRange)
		}
		for _, age := range []int{1, 2, 99, 100} {
			removes(t, expire(0, age), q, q.Items)
			if _, _, code := impl.Expire(q, impl.MaxNow, age); code != impl.OK {
				t.Errorf("Expire(%s, MaxNow, %d): %d", briefQueue(q), age, code)
			}
		}
	}
}

func TestBatch(t *testing.T) {
	for i := range impl.MaxQueue + 1 {
		for j := range impl.MaxWindow + 1 {
			hasBatch(t, sized(i, j), items(min(i, 3))...)
		}
	}
	hasBatch(t, impl.Queue{})
	hasBatch(t, queue(nil, report(1000000, 1000000, 3, "\xff")), report(1000000, 1000000, 3, "\xff"))
}

func TestSettle(t *testing.T) {
	for i := range impl.MaxQueue + 1 {
		for j := range impl.MaxWindow + 1 {
			q := sized(i, j)
			for n := range min(i, 3) + 1 {
				removes(t, settle(n), q, q.Items[n:], []int{10, 20, 30}[:n]...)
			}
		}
	}
}

// fresh returns items that were never tried.
func fresh(n int) []impl.Report {
	list := items(n)
	for i := range list {
		list[i].Tries = 0
	}
	return list
}

func TestMissed(t *testing.T) {
	for i := range impl.MaxQueue + 1 {
		for n := range min(i, 3) + 1 {
			q, want := queue(bodies(6), fresh(i)...), fresh(i)
			for tries := range impl.MaxTries - 1 {
				for k := range n {
					want[k].Tries = tries + 1
				}
				removes(t, missed(n), q, want)
				q, _, _ = impl.Missed(q, n)
			}
			removes(t, missed(n), q, want[n:], []int{10, 20, 30}[:n]...)
		}
	}
}

// TestMissedTries misses batches with all possible Tries.
func TestMissedTries(t *testing.T) {
	for a := range impl.MaxTries {
		for b := range impl.MaxTries {
			for c := range impl.MaxTries {
				for d := range impl.MaxTries {
					list := items(5)
					list[0].Tries, list[1].Tries, list[2].Tries, list[3].Tries, list[4].Tries = a, b, c, d, 3
					for n := range 4 {
						var want []impl.Report
						var ids []int
						for k, r := range list {
							switch {
							case k >= n:
								want = append(want, r)
							case r.Tries == 3:
								ids = append(ids, r.Id)
							default:
								r.Tries++
								want = append(want, r)
							}
						}
						removes(t, missed(n), queue(bodies(6), list...), want, ids...)
					}
				}
			}
		}
	}
}

func TestBatchRanges(t *testing.T) {
	for i := range impl.MaxQueue + 1 {
		q := sized(i, 2)
		longest := min(i, 3)
		for _, n := range []int{math.MinInt, -1 << 32, -2, -1, longest + 1, longest + 2, 4, 5, 6, 1 << 32, math.MaxInt} {
			refusesRemoval(t, settle(n), q, impl.ErrRange)
			refusesRemoval(t, missed(n), q, impl.ErrRange)
		}
	}
}

// TestRecentStays: what is removed from the items stays recent, so its body is
// still not accepted.
func TestRecentStays(t *testing.T) {
	r := report(1, 0, 3, "a")
	q, _, _, _ := impl.Offer(impl.Queue{}, r)
	for _, call := range []removal{settle(1), missed(1), expire(2, 1)} {
		x, ids, code := call(q)
		if !equalQueues(x, queue([]string{"a"})) || !slices.Equal(ids, []int{1}) || code != impl.OK {
			t.Errorf("got %s, %v, %d", briefQueue(x), ids, code)
		}
		rejects(t, x, report(2, 5, 0, "a"), impl.OK)
		accepts(t, x, report(2, 5, 0, "b"), 0, queue([]string{"a", "b"}, report(2, 5, 0, "b")))
	}
	// An evicted report too: the window is longer than the queue.
	full, last := impl.Queue{}, 0
	for i, body := range bodies(6) {
		full, _, last, _ = impl.Offer(full, report(i+1, 0, 0, body))
	}
	if last != 1 {
		t.Errorf("evicted %d", last)
	}
	rejects(t, full, report(7, 0, 0, "a"), impl.OK)
}

func TestSameQueues(t *testing.T) {
	base := func() impl.Queue { return sized(5, 6) }
	changes := []func(*impl.Queue){
		func(q *impl.Queue) {},
		func(q *impl.Queue) { q.Items[0].Id-- },
		func(q *impl.Queue) { q.Items[4].Id++ },
		func(q *impl.Queue) { q.Items[2].Born++ },
		func(q *impl.Queue) { q.Items[4].Born-- },
		func(q *impl.Queue) { q.Items[0].Tries = 1 },
		func(q *impl.Queue) { q.Items[3].Tries = 0 },
		func(q *impl.Queue) { q.Items[4].Tries = 3 },
		func(q *impl.Queue) { q.Items[0].Body = "a" },
		func(q *impl.Queue) { q.Items[4].Body = "E\x00" },
		func(q *impl.Queue) { q.Items = q.Items[:4] },
		func(q *impl.Queue) { q.Items = q.Items[1:] },
		func(q *impl.Queue) { q.Items = nil },
		func(q *impl.Queue) { q.Recent = q.Recent[:5] },
		func(q *impl.Queue) { q.Recent = q.Recent[1:] },
		func(q *impl.Queue) { q.Recent = nil },
		func(q *impl.Queue) { q.Recent[0] = "A" },
		func(q *impl.Queue) { q.Recent[5] = "F" },
		func(q *impl.Queue) { slices.Reverse(q.Recent) },
		func(q *impl.Queue) { *q = impl.Queue{} },
	}
	for i, changeA := range changes {
		for j, changeB := range changes {
			a, b := base(), base()
			changeA(&a)
			changeB(&b)
			if !impl.QueueOK(a) || impl.SameQueue(a, b) != (i == j) {
				t.Errorf("SameQueue of changes %d and %d is not %v", i, j, i == j)
			}
		}
	}
}

func TestEmptyQueues(t *testing.T) {
	empty := []impl.Queue{{}, {Items: []impl.Report{}}, {Recent: []string{}}, {Items: items(3)[:0], Recent: bodies(3)[:0]}}
	for _, a := range empty {
		isQueue(t, a)
		for _, b := range empty {
			if !impl.SameQueue(a, b) {
				t.Errorf("SameQueue: %#v and %#v are equal", a, b)
			}
			if impl.SameQueue(a, queue(bodies(1))) || impl.SameQueue(queue(nil, items(1)...), b) {
				t.Error("SameQueue: an empty queue equals one that is not")
			}
		}
	}
	if !impl.SameQueue(queue(nil, items(2)...), queue([]string{}, items(2)...)) || !impl.SameQueue(queue(bodies(2), items(0)...), impl.Queue{Items: []impl.Report{}, Recent: bodies(2)}) {
		t.Error("SameQueue: an empty list and a missing one are equal")
	}
}
