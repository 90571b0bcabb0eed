package tests

import (
	"fmt"
	"math/rand"
	"slices"
	"testing"

	"loop.example/g00779/impl"
)

// The model reads chapter 8 a second time. Where the program repeats an index as
// often as its Weight says, the model goes along the Weights until the draw is
// used up; it doubles by shifting, and of the times at which an endpoint wakes
// it takes the first before it looks at the clock.

func modelPeersOK(list []impl.Peer) bool {
	g := group("a", 5)
	for _, p := range list {
		g.Targets = append(g.Targets, p.Target)
		if min(p.Fails, p.RetryAt) < 0 || p.Fails > 1000000 || p.RetryAt > 1000032 || p.Fails < min(p.RetryAt, 1) {
			return false
		}
	}
	return len(list) == 0 || modelGroupOK(g)
}

func modelChoose(list []impl.Peer, now, draw int) (int, int) {
	if !modelPeersOK(list) {
		return 0, impl.ErrBad
	}
	if min(now, draw) < 0 || max(now, draw) > 1000000 {
		return 0, impl.ErrRange
	}
	byPriority := map[int][]int{}
	for i, p := range list {
		if !p.Gone && now-p.RetryAt >= 0 {
			byPriority[p.Target.Priority] = append(byPriority[p.Target.Priority], i)
		}
	}
	for priority := range 10 {
		sum := 0
		for _, i := range byPriority[priority] {
			sum += list[i].Target.Weight
		}
		left := draw % max(sum, 1)
		for _, i := range byPriority[priority] {
			if left -= list[i].Target.Weight; left < 0 {
				return i, impl.OK
			}
		}
	}
	return 0, impl.ErrNone
}

func modelWait(fails int) int {
	if fails < 1 {
		return 0
	}
	return min(1<<min(fails, 10), 32)
}

func modelWake(list []impl.Peer, now int) (int, int) {
	if !modelPeersOK(list) {
		return 0, impl.ErrBad
	}
	if now < 0 || now > 1000000 {
		return 0, impl.ErrRange
	}
	first, code := 0, impl.ErrNone
	for _, p := range list {
		if !p.Gone && (code == impl.ErrNone || p.RetryAt < first) {
			first, code = p.RetryAt, impl.OK
		}
	}
	if code != impl.OK {
		return 0, code
	}
	return max(first, now), impl.OK
}

func modelKeep(old []impl.Peer, g impl.Group) ([]impl.Peer, int) {
	if !modelPeersOK(old) || !modelGroupOK(g) {
		return nil, impl.ErrBad
	}
	known := map[string]impl.Peer{}
	for _, p := range old {
		if !p.Gone {
			known[p.Target.Url] = p
		}
	}
	var list []impl.Peer
	for _, x := range g.Targets {
		p := known[x.Url]
		p.Target = x
		list = append(list, p)
	}
	return list, impl.OK
}

// modelChange is what PeerFails, PeerWorks and PeerGone do if their range is
// right.
func modelChange(list []impl.Peer, k int, inRange bool, change func(impl.Peer) (impl.Peer, int)) ([]impl.Peer, int) {
	if !modelPeersOK(list) {
		return nil, impl.ErrBad
	}
	var changed []impl.Peer
	code := impl.ErrNone
	for i, p := range list {
		if i == k {
			p, code = change(p)
		}
		changed = append(changed, p)
	}
	if code == impl.ErrNone {
		return nil, impl.ErrNone
	}
	if !inRange {
		return nil, impl.ErrRange
	}
	return changed, code
}

func modelFails(list []impl.Peer, k, now int) ([]impl.Peer, int) {
	return modelChange(list, k, now >= 0 && now <= 1000000, func(p impl.Peer) (impl.Peer, int) {
		if p.Fails < 1000000 {
			p.Fails++
		}
		return impl.Peer{Target: p.Target, Fails: p.Fails, RetryAt: now + modelWait(p.Fails), Gone: p.Gone}, impl.OK
	})
}

func modelWorks(list []impl.Peer, k int) ([]impl.Peer, int) {
	return modelChange(list, k, true, func(p impl.Peer) (impl.Peer, int) {
		return impl.Peer{Target: p.Target, Gone: p.Gone}, impl.OK
	})
}

func modelGone(list []impl.Peer, k int) ([]impl.Peer, int) {
	return modelChange(list, k, true, func(p impl.Peer) (impl.Peer, int) {
		if p.Gone {
			return p, impl.ErrGone
		}
		return gone(p), impl.OK
	})
}

func hasPeers(t *testing.T, call peersCall, list, want []impl.Peer, wantCode int) {
	t.Helper()
	x, code := call(list)
	if !slices.Equal(x, want) || code != wantCode {
		t.Errorf("%s: got %s, %d, not %s, %d", briefPeers(list), briefPeers(x), code, briefPeers(want), wantCode)
	}
	if !impl.PeersOK(x) {
		t.Errorf("%s: got the invalid list %s", briefPeers(list), briefPeers(x))
	}
}

func hasNumber(t *testing.T, call peerCall, list []impl.Peer, want, wantCode int) {
	t.Helper()
	if n, code := call(list); n != want || code != wantCode {
		t.Errorf("%s: got %d, %d, not %d, %d", briefPeers(list), n, code, want, wantCode)
	}
}

// checkPeers compares every function with the model, and returns whether the
// list is valid.
func checkPeers(t *testing.T, r *rand.Rand, list []impl.Peer) bool {
	t.Helper()
	ok := modelPeersOK(list)
	if impl.PeersOK(list) != ok {
		t.Errorf("PeersOK(%s) is not %v", briefPeers(list), ok)
	}
	for k := -1; k <= len(list); k++ {
		x, code := modelWorks(list, k)
		hasPeers(t, works(k), list, x, code)
		x, code = modelGone(list, k)
		hasPeers(t, goes(k), list, x, code)
		now := randomTime(r, list)
		x, code = modelFails(list, k, now)
		hasPeers(t, fails(k, now), list, x, code)
	}
	for range 6 {
		now := randomTime(r, list)
		n, code := modelWake(list, now)
		hasNumber(t, wake(now), list, n, code)
		draw := []int{-1, 0, 999999, 1000000, 1000001, r.Intn(1000001)}[min(r.Intn(30), 5)]
		for range 8 {
			n, code = modelChoose(list, now, draw)
			hasNumber(t, choose(now, draw), list, n, code)
			draw++
		}
	}
	g := randomPeerGroup(r, list)
	x, code := modelKeep(list, g)
	hasPeers(t, keeps(g), list, x, code)
	return ok
}

// randomTime returns a number near a RetryAt or a limit.
func randomTime(r *rand.Rand, list []impl.Peer) int {
	if len(list) > 0 && r.Intn(3) > 0 {
		return list[r.Intn(len(list))].RetryAt + r.Intn(5) - 2
	}
	return []int{-1, 0, 1, 999999, 1000000, 1000001, r.Intn(100), r.Intn(100)}[r.Intn(8)]
}

func randomTarget(r *rand.Rand) impl.Target {
	return target(fmt.Sprintf("https://x%d/", r.Intn(12)), 1+r.Intn(1+r.Intn(9)), 1+r.Intn(9))
}

// randomPeerGroup returns a group that is often valid and often names some of
// the endpoints of a list.
func randomPeerGroup(r *rand.Rand, list []impl.Peer) impl.Group {
	if r.Intn(8) == 0 {
		return randomGroup(r)
	}
	g := group("csp", 1+r.Intn(100))
	for range 1 + r.Intn(4) {
		x := randomTarget(r)
		if len(list) > 0 && r.Intn(3) > 0 {
			x.Url = list[r.Intn(len(list))].Target.Url
		}
		if !slices.ContainsFunc(g.Targets, func(other impl.Target) bool { return other.Url == x.Url }) || r.Intn(20) == 0 {
			g.Targets = append(g.Targets, x)
		}
	}
	return g
}

func randomPeers(r *rand.Rand) []impl.Peer {
	var list []impl.Peer
	for i := range r.Intn(5) {
		x := randomTarget(r)
		x.Url = fmt.Sprintf("https://x%d/", 3*i+r.Intn(3))
		p := peer(x, 0, 0)
		if r.Intn(3) > 0 {
			p.Fails = []int{1, 2, 3, 4, 5, 6, 999999, 1000000}[r.Intn(8)]
			p.RetryAt = []int{0, 1, 2, 30, 999999, 1000000, 1000001, 1000032, r.Intn(100), r.Intn(100)}[r.Intn(10)]
		}
		p.Gone = r.Intn(4) == 0
		list = append(list, p)
	}
	r.Shuffle(len(list), func(i, j int) { list[i], list[j] = list[j], list[i] })
	return list
}

// changedPeers changes a list in one place, which need not make it invalid.
func changedPeers(r *rand.Rand, list []impl.Peer) []impl.Peer {
	list = slices.Clone(list)
	if len(list) == 0 || r.Intn(5) == 0 {
		list = append(list, impl.Peer{Target: randomTarget(r)})
	}
	p := &list[r.Intn(len(list))]
	number := []int{-1, 0, 1, 9, 10, 1000000, 1000001, 1000032, 1000033, r.Intn(10)}[r.Intn(10)]
	switch r.Intn(7) {
	case 0:
		p.Fails = number
	case 1:
		p.RetryAt = number
	case 2:
		p.Target.Priority = number
	case 3:
		p.Target.Weight = number
	case 4:
		p.Target.Url = randomUrlText(r)
	case 5:
		p.Gone = !p.Gone
	case 6:
		p.Target = list[r.Intn(len(list))].Target
	}
	return list
}

func TestModelOfPeers(t *testing.T) {
	r := rand.New(rand.NewSource(61))
	found := map[bool]int{}
	for i := range 6000 {
		list := randomPeers(r)
		for range i % 3 {
			list = changedPeers(r, list)
		}
		found[checkPeers(t, r, list)]++
		if t.Failed() {
			return
		}
	}
	if found[true] < 2000 || found[false] < 1500 {
		t.Errorf("%d valid, %d invalid", found[true], found[false])
	}
}

func TestModelOfPeersOf(t *testing.T) {
	r := rand.New(rand.NewSource(62))
	found := map[int]int{}
	for range 12000 {
		g := randomGroup(r)
		want, wantCode := modelKeep(nil, g)
		list, code := impl.PeersOf(g)
		if !slices.Equal(list, want) || code != wantCode {
			t.Fatalf("PeersOf(%s) = %+v, %d", briefGroup(g), list, code)
		}
		found[code]++
	}
	if found[impl.OK] < 2000 || found[impl.ErrBad] < 2000 {
		t.Errorf("%d valid, %d invalid", found[impl.OK], found[impl.ErrBad])
	}
}

func TestModelOfWait(t *testing.T) {
	for n := -1000; n <= impl.MaxNow+1000; n++ {
		if impl.Wait(n) != modelWait(n) {
			t.Fatalf("Wait(%d) = %d", n, impl.Wait(n))
		}
	}
}

// TestChooseInEveryState chooses at all draws among peers of all Priorities
// from 1 to 3 and in all states.
func TestChooseInEveryState(t *testing.T) {
	const now = 50
	states := []func(impl.Peer) impl.Peer{
		func(p impl.Peer) impl.Peer { return p },
		func(p impl.Peer) impl.Peer { return until(p, now) },
		func(p impl.Peer) impl.Peer { return until(p, now+1) },
		gone,
	}
	weights := []int{2, 1, 3}
	for sequence := range power(12, 3) {
		var list []impl.Peer
		for i, weight := range weights {
			n := sequence / power(12, i) % 12
			list = append(list, states[n%4](ranked(string(rune('a'+i)), 1+n/4, weight)))
		}
		for draw := range 14 {
			n, code := modelChoose(list, now, draw)
			hasNumber(t, choose(now, draw), list, n, code)
		}
		n, code := modelWake(list, now)
		hasNumber(t, wake(now), list, n, code)
		if t.Failed() {
			return
		}
	}
}

// life is what happened to one endpoint since it was named.
type life struct {
	target      impl.Target
	failures    int
	lastFailure int
	gone        bool
}

// isReady tells it from what happened, and not from a list of peers.
func (x life) isReady(now int) bool {
	return !x.gone && (x.failures == 0 || now-x.lastFailure >= min(1<<min(x.failures, 6), 32))
}

// renamed returns the lives of a group's endpoints after those that were named
// before.
func renamed(old []life, g impl.Group) []life {
	var list []life
	for _, x := range g.Targets {
		one := life{target: x}
		for _, before := range old {
			if before.target.Url == x.Url && !before.gone {
				one.failures, one.lastFailure = before.failures, before.lastFailure
			}
		}
		list = append(list, one)
	}
	return list
}

// lives are those of a group's endpoints in order.
type lives struct {
	list  []life
	peers []impl.Peer
	now   int
}

// name names endpoints; one that is not named is forgotten.
func (l *lives) name(t *testing.T, g impl.Group) {
	t.Helper()
	l.list = renamed(l.list, g)
	x, code := impl.KeepPeers(l.peers, g)
	if code != impl.OK {
		t.Errorf("KeepPeers(%s, %s): code %d", briefPeers(l.peers), briefGroup(g), code)
	}
	l.peers = x
}

// use chooses an endpoint, and tells of one that answers, fails or is gone.
func (l *lives) use(t *testing.T, draw, answer int) {
	t.Helper()
	k, code := impl.Choose(l.peers, l.now, draw)
	if code != impl.OK {
		return
	}
	one := &l.list[k]
	x := l.peers
	switch answer {
	case 0:
		x, code = impl.PeerWorks(x, k)
		one.failures = 0
	case 1:
		x, code = impl.PeerGone(x, k)
		one.gone = true
	default:
		x, code = impl.PeerFails(x, k, l.now)
		one.failures++
		one.lastFailure = l.now
	}
	if code != impl.OK {
		t.Errorf("%s: answer %d for %d: code %d", briefPeers(l.peers), answer, k, code)
	}
	l.peers = x
}

// check: over all draws, those that are ready and have the least Priority among
// the ready ones are chosen as often as their Weights say. It returns whether
// there is one.
func (l *lives) check(t *testing.T, now int) bool {
	t.Helper()
	least, sum := 10, 0
	for _, one := range l.list {
		if one.isReady(now) {
			least = min(least, one.target.Priority)
		}
	}
	want := make([]int, len(l.list))
	for i, one := range l.list {
		if one.isReady(now) && one.target.Priority == least {
			want[i] = one.target.Weight
			sum += one.target.Weight
		}
	}
	counts := make([]int, len(l.list))
	for draw := range sum {
		k, code := impl.Choose(l.peers, now, draw)
		if code != impl.OK {
			t.Fatalf("Choose(%s, %d, %d): code %d", briefPeers(l.peers), now, draw, code)
		}
		counts[k]++
	}
	if !slices.Equal(counts, want) {
		t.Errorf("%s at %d: chosen %v times, not %v", briefPeers(l.peers), now, counts, want)
	}
	if sum == 0 {
		tellsNone(t, choose(now, 0), l.peers, impl.ErrNone)
	}
	return sum > 0
}

// checkWake: none is ready before the announced time, and then one is.
func (l *lives) checkWake(t *testing.T) {
	t.Helper()
	at, code := impl.NextWake(l.peers, l.now)
	if left := slices.ContainsFunc(l.list, func(x life) bool { return !x.gone }); left != (code == impl.OK) {
		t.Errorf("NextWake(%s, %d) = %d, %d", briefPeers(l.peers), l.now, at, code)
	}
	if code != impl.OK {
		return
	}
	for now := l.now; now <= min(at, impl.MaxNow); now++ {
		if l.check(t, now) != (now == at) {
			t.Errorf("NextWake(%s, %d) = %d, and at %d it is different", briefPeers(l.peers), l.now, at, now)
		}
	}
}

// TestPromise7 makes long sequences of calls, in which endpoints are named
// again and again.
func TestPromise7(t *testing.T) {
	r := rand.New(rand.NewSource(63))
	waits, goneOnes, longest := 0, 0, 0
	for i := range 200 {
		l := &lives{now: []int{0, 0, r.Intn(1000), impl.MaxNow - 300}[i%4]}
		for range 150 {
			switch r.Intn(12) {
			case 0:
				g := group("csp", 5)
				for _, n := range r.Perm(6)[:1+r.Intn(4)] {
					g.Targets = append(g.Targets, target(fmt.Sprintf("https://x%d/", n), 1+r.Intn(2), 1+r.Intn(4)))
				}
				l.name(t, g)
			case 1, 2, 3:
				l.now = min(l.now+r.Intn(1+i%20), impl.MaxNow)
			default:
				l.use(t, r.Intn(1000), r.Intn(5+i%40))
			}
			if !l.check(t, l.now) {
				waits++
			}
			l.checkWake(t)
			if t.Failed() {
				return
			}
			for _, one := range l.list {
				longest = max(longest, one.failures)
				if one.gone {
					goneOnes++
				}
			}
		}
	}
	if waits < 3000 || goneOnes < 3000 || longest < 8 {
		t.Errorf("%d times none is ready, %d are gone, at most %d failures", waits, goneOnes, longest)
	}
}
