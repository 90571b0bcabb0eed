package tests

import (
	"fmt"
	"math"
	"slices"
	"strings"
	"testing"

	"loop.example/g00779/impl"
)

func peer(x impl.Target, fails, retryAt int) impl.Peer {
	return impl.Peer{Target: x, Fails: fails, RetryAt: retryAt}
}

// ranked returns a peer that never failed.
func ranked(name string, priority, weight int) impl.Peer {
	return peer(target("https://"+name+"/", priority, weight), 0, 0)
}

// until returns p after a failure, to be tried again at a time.
func until(p impl.Peer, retryAt int) impl.Peer { return peer(p.Target, 1, retryAt) }

func gone(p impl.Peer) impl.Peer {
	p.Gone = true
	return p
}

// peers returns n peers that failed once, twice and so on, and are to be tried
// again at 10, 20 and so on.
func peers(n int) []impl.Peer {
	var list []impl.Peer
	for i, x := range targets(n) {
		list = append(list, peer(x, i+1, 10*(i+1)))
	}
	return list
}

// withPeer returns a copy of a list in which the peer i is changed.
func withPeer(list []impl.Peer, i int, change func(*impl.Peer)) []impl.Peer {
	list = slices.Clone(list)
	change(&list[i])
	return list
}

func briefPeers(list []impl.Peer) string {
	return fmt.Sprintf("%d peers: %.500q", len(list), fmt.Sprintf("%+v", list))
}

// peersCall is a call of a function that returns a list of peers.
type peersCall func([]impl.Peer) ([]impl.Peer, int)

func fails(k, now int) peersCall {
	return func(list []impl.Peer) ([]impl.Peer, int) { return impl.PeerFails(list, k, now) }
}

func works(k int) peersCall {
	return func(list []impl.Peer) ([]impl.Peer, int) { return impl.PeerWorks(list, k) }
}

func goes(k int) peersCall {
	return func(list []impl.Peer) ([]impl.Peer, int) { return impl.PeerGone(list, k) }
}

func keeps(g impl.Group) peersCall {
	return func(list []impl.Peer) ([]impl.Peer, int) { return impl.KeepPeers(list, g) }
}

func yields(t *testing.T, call peersCall, list []impl.Peer, want ...impl.Peer) {
	t.Helper()
	if x, code := call(list); !slices.Equal(x, want) || code != impl.OK {
		t.Errorf("%s: got %s, %d, not %s", briefPeers(list), briefPeers(x), code, briefPeers(want))
	}
}

func refusesPeers(t *testing.T, call peersCall, list []impl.Peer, want int) {
	t.Helper()
	if x, code := call(list); len(x) != 0 || code != want {
		t.Errorf("%s: got %s, %d, not the code %d", briefPeers(list), briefPeers(x), code, want)
	}
}

// peerCall is a call of Choose or NextWake.
type peerCall func([]impl.Peer) (int, int)

func choose(now, draw int) peerCall {
	return func(list []impl.Peer) (int, int) { return impl.Choose(list, now, draw) }
}

func wake(now int) peerCall {
	return func(list []impl.Peer) (int, int) { return impl.NextWake(list, now) }
}

func tells(t *testing.T, call peerCall, list []impl.Peer, want int) {
	t.Helper()
	if n, code := call(list); n != want || code != impl.OK {
		t.Errorf("%s: got %d, %d, not %d", briefPeers(list), n, code, want)
	}
}

func tellsNone(t *testing.T, call peerCall, list []impl.Peer, want int) {
	t.Helper()
	if n, code := call(list); n != 0 || code != want {
		t.Errorf("%s: got %d, %d, not the code %d", briefPeers(list), n, code, want)
	}
}

// newcomer is a group that names no endpoint of other tests.
func newcomer() impl.Group { return group("a", 5, target("https://newcomer/", 3, 4)) }

// isPeers checks that every function takes a valid list, and that a call for
// one peer changes that one only.
func isPeers(t *testing.T, list []impl.Peer) {
	t.Helper()
	if !impl.PeersOK(list) {
		t.Errorf("PeersOK: %s is valid", briefPeers(list))
	}
	yields(t, keeps(newcomer()), list, ranked("newcomer", 3, 4))
	for _, now := range []int{0, impl.MaxNow} {
		if _, code := impl.Choose(list, now, 0); code != impl.OK && code != impl.ErrNone {
			t.Errorf("Choose(%s, %d, 0): code %d", briefPeers(list), now, code)
		}
		if _, code := impl.NextWake(list, now); code != impl.OK && code != impl.ErrNone {
			t.Errorf("NextWake(%s, %d): code %d", briefPeers(list), now, code)
		}
	}
	for k, p := range list {
		more := min(p.Fails+1, impl.MaxNow)
		later := 7 + []int{0, 2, 4, 8, 16, 32}[min(more, 5)]
		yields(t, fails(k, 7), list, withPeer(list, k, func(p *impl.Peer) { p.Fails, p.RetryAt = more, later })...)
		yields(t, works(k), list, withPeer(list, k, func(p *impl.Peer) { p.Fails, p.RetryAt = 0, 0 })...)
		if !p.Gone {
			yields(t, goes(k), list, withPeer(list, k, func(p *impl.Peer) { p.Gone = true })...)
		} else if x, code := impl.PeerGone(list, k); !slices.Equal(x, list) || code != impl.ErrGone {
			t.Errorf("PeerGone(%s, %d) = %+v, %d", briefPeers(list), k, x, code)
		}
	}
}

// timesAround and indexesAround are inside and outside what is allowed.
var timesAround = []int{math.MinInt, -1, 0, 1, impl.MaxNow, impl.MaxNow + 1, math.MaxInt}

func indexesAround(n int) []int { return []int{math.MinInt, -1, 0, n - 1, n, n + 1, math.MaxInt} }

// refusesAll checks that every function refuses a list, whatever the other
// arguments are.
func refusesAll(t *testing.T, list []impl.Peer, want int) {
	t.Helper()
	if impl.PeersOK(list) {
		t.Errorf("PeersOK: %s is invalid", briefPeers(list))
	}
	for _, g := range []impl.Group{{}, newcomer(), group("a", 5, targets(4)...), group("a", 0, targets(4)...)} {
		refusesPeers(t, keeps(g), list, want)
	}
	for _, now := range timesAround {
		tellsNone(t, wake(now), list, want)
		for _, draw := range timesAround {
			tellsNone(t, choose(now, draw), list, want)
		}
	}
	for _, k := range indexesAround(len(list)) {
		refusesPeers(t, works(k), list, want)
		refusesPeers(t, goes(k), list, want)
		for _, now := range timesAround {
			refusesPeers(t, fails(k, now), list, want)
		}
	}
}

func noPeers(t *testing.T, list []impl.Peer) {
	t.Helper()
	refusesAll(t, list, impl.ErrBad)
}

// isPeer and noPeer check a change of each peer of lists of every length.
func isPeer(t *testing.T, change func(*impl.Peer)) {
	t.Helper()
	for n := 1; n <= impl.MaxTargets; n++ {
		for i := range n {
			isPeers(t, withPeer(peers(n), i, change))
			isPeers(t, withPeer(peers(n), i, func(p *impl.Peer) { change(p); p.Gone = true }))
		}
	}
}

func noPeer(t *testing.T, change func(*impl.Peer)) {
	t.Helper()
	for n := 1; n <= impl.MaxTargets; n++ {
		for i := range n {
			noPeers(t, withPeer(peers(n), i, change))
		}
		// What is gone must be valid too.
		noPeers(t, withPeer(peers(n), n-1, func(p *impl.Peer) { change(p); p.Gone = true }))
	}
}

func TestPeerConstants(t *testing.T) {
	if impl.BackBase != 2 || impl.BackMost != 32 {
		t.Error("a constant of chapter 8 is wrong")
	}
}

func TestPeerCounts(t *testing.T) {
	isPeers(t, nil)
	isPeers(t, []impl.Peer{})
	for n := range impl.MaxTargets + 1 {
		isPeers(t, peers(n))
	}
	for _, n := range []int{5, 6, 8, 12, 100} {
		noPeers(t, peers(n))
	}
	noPeers(t, make([]impl.Peer, 1))
	noPeers(t, make([]impl.Peer, 5))
}

// TestLongListsOfPeers: what is too long for any slice has a code of its own,
// before all others.
func TestLongListsOfPeers(t *testing.T) {
	for _, n := range []int{impl.MaxList - 1, impl.MaxList} {
		refusesAll(t, peers(n), impl.ErrBad)
		refusesAll(t, make([]impl.Peer, n), impl.ErrBad)
	}
	for _, n := range []int{impl.MaxList + 1, impl.MaxList + 2, 1 << 16} {
		refusesAll(t, peers(n), impl.ErrLong)
		refusesAll(t, make([]impl.Peer, n), impl.ErrLong)
	}
}

func TestPeerUrls(t *testing.T) {
	for _, url := range cleanTexts {
		isPeer(t, func(p *impl.Peer) { p.Target.Url = url })
	}
	bad := slices.Clone(noCleanTexts)
	for _, v := range uncleanTexts {
		bad = append(bad, v.text)
	}
	for _, url := range append(bad, strings.Repeat("a", impl.MaxText+1), "https://x/"+strings.Repeat("a", impl.MaxText)) {
		noPeer(t, func(p *impl.Peer) { p.Target.Url = url })
	}
}

func TestPeerRanks(t *testing.T) {
	for _, rank := range []int{1, 2, 5, 8, 9} {
		isPeer(t, func(p *impl.Peer) { p.Target.Priority = rank })
		isPeer(t, func(p *impl.Peer) { p.Target.Weight = rank })
	}
	for _, rank := range []int{math.MinInt, -9, -1, 0, 10, 11, 1<<32 + 1, math.MaxInt} {
		noPeer(t, func(p *impl.Peer) { p.Target.Priority = rank })
		noPeer(t, func(p *impl.Peer) { p.Target.Weight = rank })
	}
}

// TestPeersWithEqualUrls: two peers differ only if their Urls do.
func TestPeersWithEqualUrls(t *testing.T) {
	for n := 2; n <= impl.MaxTargets; n++ {
		for i := range n {
			for j := range i {
				list := peers(n)
				noPeers(t, withPeer(list, i, func(p *impl.Peer) { p.Target.Url = list[j].Target.Url }))
				noPeers(t, withPeer(list, j, func(p *impl.Peer) { *p = list[i] }))
				noPeers(t, withPeer(list, j, func(p *impl.Peer) { *p = gone(list[i]) }))
				isPeers(t, withPeer(list, i, func(p *impl.Peer) { p.Target.Url = list[j].Target.Url + "?" }))
			}
		}
	}
}

func TestPeerFailsAndTimes(t *testing.T) {
	counts := []int{1, 2, 5, 6, 999999, impl.MaxNow}
	times := []int{0, 1, 999999, impl.MaxNow, impl.MaxNow + 1, impl.MaxNow + 31, impl.MaxNow + 32}
	for _, n := range counts {
		for _, at := range times {
			isPeer(t, func(p *impl.Peer) { p.Fails, p.RetryAt = n, at })
		}
		for _, at := range []int{math.MinInt, -32, -1, impl.MaxNow + 33, 2 * impl.MaxNow, 1 << 32, math.MaxInt} {
			noPeer(t, func(p *impl.Peer) { p.Fails, p.RetryAt = n, at })
		}
	}
	for _, n := range []int{math.MinInt, -1 << 32, -2, -1, impl.MaxNow + 1, impl.MaxNow + 32, 1<<32 + 1, math.MaxInt} {
		for _, at := range append(times, -1) {
			noPeer(t, func(p *impl.Peer) { p.Fails, p.RetryAt = n, at })
		}
	}
	// Who never failed need not wait.
	isPeer(t, func(p *impl.Peer) { p.Fails, p.RetryAt = 0, 0 })
	for _, at := range append(times[1:], math.MinInt, -1, math.MaxInt) {
		noPeer(t, func(p *impl.Peer) { p.Fails, p.RetryAt = 0, at })
	}
}

// TestErrorsOfPeerCalls makes the calls with all pairs of arguments that are
// inside and outside what is allowed.
func TestErrorsOfPeerCalls(t *testing.T) {
	goneOnes := peers(3)
	for i, p := range goneOnes {
		goneOnes[i] = gone(p)
	}
	for _, list := range [][]impl.Peer{nil, peers(1), peers(4), goneOnes} {
		for _, k := range indexesAround(len(list)) {
			exists := k >= 0 && k < len(list)
			if !exists {
				refusesPeers(t, works(k), list, impl.ErrNone)
				refusesPeers(t, goes(k), list, impl.ErrNone)
			}
			for _, now := range timesAround {
				inRange := now >= 0 && now <= impl.MaxNow
				x, code := impl.PeerFails(list, k, now)
				switch {
				case !exists:
					refusesPeers(t, fails(k, now), list, impl.ErrNone)
				case !inRange:
					refusesPeers(t, fails(k, now), list, impl.ErrRange)
				case len(x) != len(list) || code != impl.OK:
					t.Errorf("PeerFails(%s, %d, %d) = %+v, %d", briefPeers(list), k, now, x, code)
				}
			}
		}
		for _, now := range timesAround {
			if now < 0 || now > impl.MaxNow {
				tellsNone(t, wake(now), list, impl.ErrRange)
			}
			for _, draw := range timesAround {
				if min(now, draw) < 0 || max(now, draw) > impl.MaxNow {
					tellsNone(t, choose(now, draw), list, impl.ErrRange)
				}
			}
		}
	}
}

func TestPeersOf(t *testing.T) {
	for n := 1; n <= impl.MaxTargets; n++ {
		for _, name := range []string{"a", "default", "abcdefghijkl"} {
			for _, age := range []int{1, 100} {
				g := group(name, age, targets(n)...)
				var want []impl.Peer
				for _, x := range g.Targets {
					want = append(want, impl.Peer{Target: x})
				}
				list, code := impl.PeersOf(g)
				if !slices.Equal(list, want) || code != impl.OK || !impl.PeersOK(list) {
					t.Errorf("PeersOf(%s) = %+v, %d", briefGroup(g), list, code)
				}
				yields(t, keeps(g), nil, want...)
				yields(t, keeps(g), []impl.Peer{gone(ranked("z", 1, 1))}, want...)
			}
		}
	}
}

// badGroups returns groups that are invalid, each for one reason.
func badGroups() []impl.Group {
	list := []impl.Group{
		{}, group("", 5, targets(2)...), group("9", 5, targets(2)...), group("a-b", 5, targets(2)...), group("abcdefghijklm", 5, targets(2)...), group(strings.Repeat("a", impl.MaxText+1), 5, targets(2)...),
		group("a", -1, targets(2)...), group("a", 0, targets(2)...), group("a", 101, targets(2)...), group("a", math.MinInt, targets(2)...), group("a", math.MaxInt, targets(2)...),
		group("a", 5), group("a", 5, targets(5)...), group("a", 5, targets(impl.MaxList)...), group("a", 5, targets(impl.MaxList+1)...),
		group("a", 5, slices.Repeat(targets(1), 2)...), group("a", 5, target("https://x/", 1, 1), target("https://y/", 1, 1), target("https://x/", 2, 2)),
	}
	for _, url := range []string{"", "x", "https://x", "https://x/#", "data:x", longUrl(101)} {
		list = append(list, group("a", 5, target(url, 1, 1)), group("a", 5, append(targets(3), target(url, 1, 1))...))
	}
	for _, rank := range []int{math.MinInt, -1, 0, 10, math.MaxInt} {
		list = append(list, group("a", 5, target("https://x/", rank, 1)), group("a", 5, append(targets(3), target("https://x/", 1, rank))...))
	}
	return list
}

func TestPeersOfBadGroups(t *testing.T) {
	for _, g := range badGroups() {
		if list, code := impl.PeersOf(g); len(list) != 0 || code != impl.ErrBad {
			t.Errorf("PeersOf(%s) = %+v, %d", briefGroup(g), list, code)
		}
		for n := range impl.MaxTargets + 1 {
			refusesPeers(t, keeps(g), peers(n), impl.ErrBad)
		}
	}
}

func TestKeepPeers(t *testing.T) {
	a, b, c, d := peer(target("https://a/", 1, 2), 3, 77), peer(target("https://b/", 4, 5), 1, 0), gone(peer(target("https://c/", 7, 8), 2, 9)), ranked("d", 9, 9)
	old := []impl.Peer{a, b, c, d}
	names := func(list ...impl.Peer) impl.Group {
		var found []impl.Target
		for _, p := range list {
			found = append(found, p.Target)
		}
		return group("g", 50, found...)
	}
	e, f := ranked("e", 1, 1), ranked("f", 2, 2)
	freshC := ranked("c", 7, 8)
	for _, v := range []struct {
		g    impl.Group
		want []impl.Peer
	}{
		// None, some and all of the endpoints that are known, in other orders.
		{names(e), []impl.Peer{e}},
		{names(e, f), []impl.Peer{e, f}},
		{names(a), []impl.Peer{a}},
		{names(d), []impl.Peer{d}},
		{names(a, e), []impl.Peer{a, e}},
		{names(e, b, f, a), []impl.Peer{e, b, f, a}},
		{names(a, b, d), []impl.Peer{a, b, d}},
		{names(d, b, a), []impl.Peer{d, b, a}},
		{names(b, a), []impl.Peer{b, a}},
		// Whoever was gone begins again.
		{names(c), []impl.Peer{freshC}},
		{names(a, b, c, d), []impl.Peer{a, b, freshC, d}},
		{names(d, freshC, b, a), []impl.Peer{d, freshC, b, a}},
		{names(c, e), []impl.Peer{freshC, e}},
		// The new Priority and Weight count.
		{group("g", 50, target("https://a/", 9, 1)), []impl.Peer{peer(target("https://a/", 9, 1), 3, 77)}},
		{group("g", 50, target("https://b/", 1, 9), target("https://a/", 1, 3)), []impl.Peer{peer(target("https://b/", 1, 9), 1, 0), peer(target("https://a/", 1, 3), 3, 77)}},
		{group("g", 50, target("https://c/", 2, 3)), []impl.Peer{ranked("c", 2, 3)}},
		{group("g", 50, target("https://d/", 1, 1)), []impl.Peer{ranked("d", 1, 1)}},
		// Only the same Url is the same endpoint.
		{group("g", 50, target("http://a/", 1, 2), target("https://a/?", 1, 2), target("https://u@a/", 1, 2), target("https://a:80/", 1, 2)), []impl.Peer{
			peer(target("http://a/", 1, 2), 0, 0), peer(target("https://a/?", 1, 2), 0, 0), peer(target("https://u@a/", 1, 2), 0, 0), peer(target("https://a:80/", 1, 2), 0, 0),
		}},
		{group("g", 50, target("https://a/b", 1, 2), target("https://aa/", 1, 2)), []impl.Peer{peer(target("https://a/b", 1, 2), 0, 0), ranked("aa", 1, 2)}},
	} {
		yields(t, keeps(v.g), old, v.want...)
		reversed := slices.Clone(old)
		slices.Reverse(reversed)
		yields(t, keeps(v.g), reversed, v.want...)
	}
}

// TestKeepLimits keeps what is at its limits.
func TestKeepLimits(t *testing.T) {
	for _, n := range []int{1, impl.MaxNow} {
		for _, at := range []int{0, impl.MaxNow, impl.MaxNow + impl.BackMost} {
			for i, x := range targets(4) {
				list := withPeer(peers(4), i, func(p *impl.Peer) { p.Fails, p.RetryAt = n, at })
				yields(t, keeps(group("a", 1, x)), list, peer(x, n, at))
				yields(t, keeps(group("a", 1, targets(4)...)), list, list...)
				list[i].Gone = true
				yields(t, keeps(group("a", 1, x)), list, peer(x, 0, 0))
			}
		}
	}
}

// TestKeepInEveryOrder keeps all orders of all choices of endpoints, of which
// all choices are gone.
func TestKeepInEveryOrder(t *testing.T) {
	for away := range 16 {
		old := peers(4)
		for i := range old {
			old[i].Gone = away>>i&1 == 1
		}
		for order := range power(5, 4) {
			// The endpoints 0 to 3 are known, and the fourth is not.
			var g, want = group("a", 9), []impl.Peer(nil)
			seen := map[int]bool{}
			for place := range 4 {
				k := order / power(5, place) % 5
				if seen[k] {
					continue
				}
				seen[k] = true
				p := ranked("new", 5, 5)
				if k < 4 {
					p = peer(target(old[k].Target.Url, 5, place+1), old[k].Fails, old[k].RetryAt)
				}
				if k < 4 && old[k].Gone {
					p.Fails, p.RetryAt = 0, 0
				}
				g.Targets, want = append(g.Targets, p.Target), append(want, p)
			}
			yields(t, keeps(g), old, want...)
		}
	}
}

// chooses checks what is chosen at the first draws, and at draws beyond them
// that have the same remainder.
func chooses(t *testing.T, list []impl.Peer, now int, want ...int) {
	t.Helper()
	if len(want) == 0 {
		for _, draw := range []int{0, 1, 7, 36, impl.MaxNow} {
			tellsNone(t, choose(now, draw), list, impl.ErrNone)
		}
	}
	for draw, k := range want {
		last := (impl.MaxNow-draw)/len(want)*len(want) + draw
		for _, d := range []int{draw, draw + len(want), draw + 2*len(want), draw + 1000*len(want), last - len(want), last} {
			tells(t, choose(now, d), list, k)
		}
	}
}

func TestChoose(t *testing.T) {
	a, b, c, d := ranked("a", 1, 2), ranked("b", 1, 3), ranked("c", 2, 1), ranked("d", 9, 9)
	chooses(t, nil, 0)
	chooses(t, nil, impl.MaxNow)
	for _, now := range []int{0, 1, impl.MaxNow} {
		chooses(t, []impl.Peer{a}, now, 0, 0)
		chooses(t, []impl.Peer{a, b, c}, now, 0, 0, 1, 1, 1)
		chooses(t, []impl.Peer{b, a, c}, now, 0, 0, 0, 1, 1)
		chooses(t, []impl.Peer{a, c, b}, now, 0, 0, 2, 2, 2)
		chooses(t, []impl.Peer{c, b, a}, now, 1, 1, 1, 2, 2)
		chooses(t, []impl.Peer{d, c}, now, 1)
		chooses(t, []impl.Peer{d}, now, 0, 0, 0, 0, 0, 0, 0, 0, 0)
		chooses(t, []impl.Peer{c, d, a}, now, 2, 2)
		chooses(t, []impl.Peer{d, c, b, a}, now, 2, 2, 2, 3, 3)
	}
}

// TestReadiness: an endpoint may be tried at its time, and not before.
func TestReadiness(t *testing.T) {
	a, b := ranked("a", 1, 1), ranked("b", 1, 1)
	for _, at := range []int{0, 1, 2, 31, 32, 500, impl.MaxNow - 1, impl.MaxNow, impl.MaxNow + 1, impl.MaxNow + 32} {
		for _, now := range []int{0, 1, at - 2, at - 1, at, at + 1, at + 2, impl.MaxNow} {
			if now < 0 || now > impl.MaxNow {
				continue
			}
			only, both := []impl.Peer{until(a, at)}, []impl.Peer{until(a, at), b}
			if now >= at {
				chooses(t, only, now, 0)
				chooses(t, both, now, 0, 1)
			} else {
				chooses(t, only, now)
				chooses(t, both, now, 1)
			}
			for i := range both {
				both[i] = gone(both[i])
			}
			chooses(t, both, now)
			chooses(t, []impl.Peer{gone(only[0]), b}, now, 1)
		}
	}
	// How often it failed is of no account.
	for _, n := range []int{1, 5, 1000, impl.MaxNow} {
		chooses(t, []impl.Peer{peer(a.Target, n, 9)}, 9, 0)
		chooses(t, []impl.Peer{peer(a.Target, n, 9)}, 8)
		chooses(t, []impl.Peer{peer(a.Target, n, 0)}, 0, 0)
	}
}

// TestPriorities: the least Priority counts among those that are ready.
func TestPriorities(t *testing.T) {
	a, b, c, d := ranked("a", 1, 2), ranked("b", 2, 1), ranked("c", 2, 2), ranked("d", 3, 1)
	list := []impl.Peer{until(a, 30), until(b, 20), until(c, 10), d}
	chooses(t, list, 0, 3)
	chooses(t, list, 9, 3)
	chooses(t, list, 10, 2, 2)
	chooses(t, list, 19, 2, 2)
	chooses(t, list, 20, 1, 2, 2)
	chooses(t, list, 29, 1, 2, 2)
	chooses(t, list, 30, 0, 0)
	list[0] = gone(list[0])
	chooses(t, list, 30, 1, 2, 2)
	list[1] = gone(list[1])
	chooses(t, list, 30, 2, 2)
	list[2] = gone(list[2])
	chooses(t, list, 30, 3)
	list[3] = gone(list[3])
	chooses(t, list, 30)
	for high := 1; high <= 9; high++ {
		for low := 1; low <= 9; low++ {
			pair := []impl.Peer{ranked("x", high, 1), ranked("y", low, 1)}
			switch {
			case high < low:
				chooses(t, pair, 5, 0)
				chooses(t, []impl.Peer{until(pair[0], 6), pair[1]}, 5, 1)
				chooses(t, []impl.Peer{gone(pair[0]), pair[1]}, 5, 1)
			case high > low:
				chooses(t, pair, 5, 1)
			default:
				chooses(t, pair, 5, 0, 1)
			}
		}
	}
}

// TestWeights: over all draws from 0 to the sum of the Weights minus 1, each is
// chosen as often as its Weight says.
func TestWeights(t *testing.T) {
	for sequence := range power(9, 4) {
		var list []impl.Peer
		sum := 0
		for i := range 4 {
			weight := sequence/power(9, i)%9 + 1
			list = append(list, ranked(string(rune('a'+i)), 5, weight))
			sum += weight
		}
		counts := make([]int, 4)
		last := 0
		for draw := range sum {
			k, code := impl.Choose(list, 0, draw)
			if code != impl.OK || k < last {
				t.Fatalf("Choose(%s, 0, %d) = %d, %d, behind %d", briefPeers(list), draw, k, code, last)
			}
			counts[k]++
			last = k
		}
		for k, n := range counts {
			if n != list[k].Target.Weight {
				t.Fatalf("%s: %d is chosen %d times", briefPeers(list), k, n)
			}
		}
		tells(t, choose(0, sum), list, 0)
		tells(t, choose(0, 2*sum-1), list, 3)
	}
}

func TestWait(t *testing.T) {
	for n, want := range []int{0, 2, 4, 8, 16, 32, 32, 32, 32} {
		if impl.Wait(n) != want {
			t.Errorf("Wait(%d) = %d, not %d", n, impl.Wait(n), want)
		}
	}
	for n := 5; n < 300; n++ {
		if impl.Wait(n) != 32 || impl.Wait(5-n) != 0 {
			t.Errorf("Wait(%d) = %d, Wait(%d) = %d", n, impl.Wait(n), 5-n, impl.Wait(5-n))
		}
	}
	for _, n := range []int{impl.MaxNow - 1, impl.MaxNow, impl.MaxNow + 1, 1<<31 - 1, 1 << 31, 1 << 32, 1<<32 + 1, 1 << 62, math.MaxInt - 1, math.MaxInt} {
		if impl.Wait(n) != 32 || impl.Wait(-n) != 0 {
			t.Errorf("Wait(%d) = %d, Wait(%d) = %d", n, impl.Wait(n), -n, impl.Wait(-n))
		}
	}
	if impl.Wait(math.MinInt) != 0 || impl.Wait(math.MinInt+1) != 0 {
		t.Error("Wait of the least numbers is not 0")
	}
}

// TestPeerFails: after each failure the waiting time doubles up to its maximum.
func TestPeerFails(t *testing.T) {
	for n := 1; n <= impl.MaxTargets; n++ {
		for k := range n {
			for _, now := range []int{0, 1, 500, impl.MaxNow - 1, impl.MaxNow} {
				list, _ := impl.PeersOf(group("a", 5, targets(n)...))
				for failures := 1; failures <= 40; failures++ {
					want := withPeer(list, k, func(p *impl.Peer) {
						p.Fails, p.RetryAt = failures, now+min(1<<failures, 32)
					})
					yields(t, fails(k, now), list, want...)
					list = want
				}
				yields(t, works(k), list, withPeer(list, k, func(p *impl.Peer) { p.Fails, p.RetryAt = 0, 0 })...)
			}
		}
	}
}

// TestPeerFailsManyTimes fails after very many other failures.
func TestPeerFailsManyTimes(t *testing.T) {
	x := target("https://x/", 1, 1)
	for n := 40; n < impl.MaxNow; n += 101 {
		yields(t, fails(0, n), []impl.Peer{peer(x, n, 5)}, peer(x, n+1, n+32))
		if t.Failed() {
			return
		}
	}
}

// TestPeerFailsAtItsLimit: Fails stays at MaxNow, and RetryAt still changes.
func TestPeerFailsAtItsLimit(t *testing.T) {
	x := target("https://x/", 1, 1)
	for _, n := range []int{999997, 999998, 999999} {
		for _, now := range []int{0, impl.MaxNow} {
			yields(t, fails(0, now), []impl.Peer{peer(x, n, 5)}, peer(x, n+1, now+32))
		}
	}
	list := []impl.Peer{peer(x, impl.MaxNow, impl.MaxNow+32)}
	for _, now := range []int{impl.MaxNow, 0, 1, 999999} {
		yields(t, fails(0, now), list, peer(x, impl.MaxNow, now+32))
		list, _ = impl.PeerFails(list, 0, now)
	}
	// A later failure may even have an earlier time: now is what the caller says.
	yields(t, fails(0, 3), []impl.Peer{peer(x, 1, 900)}, peer(x, 2, 7))
	yields(t, fails(0, 3), []impl.Peer{gone(peer(x, 1, 900))}, gone(peer(x, 2, 7)))
	yields(t, fails(0, 3), []impl.Peer{gone(peer(x, 0, 0))}, gone(peer(x, 1, 5)))
}

func TestPeerWorks(t *testing.T) {
	for n := 1; n <= impl.MaxTargets; n++ {
		for k := range n {
			want := withPeer(peers(n), k, func(p *impl.Peer) { p.Fails, p.RetryAt = 0, 0 })
			yields(t, works(k), peers(n), want...)
			yields(t, works(k), want, want...)
			yields(t, works(k), withPeer(peers(n), k, func(p *impl.Peer) { p.Fails, p.RetryAt = impl.MaxNow, impl.MaxNow+32 }), want...)
			want[k] = gone(want[k])
			yields(t, works(k), withPeer(peers(n), k, func(p *impl.Peer) { *p = gone(*p) }), want...)
		}
	}
}

func TestPeerGone(t *testing.T) {
	for n := 1; n <= impl.MaxTargets; n++ {
		for k := range n {
			list := withPeer(peers(n), k, func(p *impl.Peer) { *p = gone(*p) })
			yields(t, goes(k), peers(n), list...)
			if x, code := impl.PeerGone(list, k); !slices.Equal(x, list) || code != impl.ErrGone {
				t.Errorf("PeerGone(%s, %d) = %+v, %d", briefPeers(list), k, x, code)
			}
			// One that is gone does not keep others from going.
			for other := range n {
				if other != k {
					yields(t, goes(other), list, withPeer(list, other, func(p *impl.Peer) { *p = gone(*p) })...)
				}
			}
		}
	}
}

func TestNextWake(t *testing.T) {
	a, b, c := ranked("a", 9, 1), ranked("b", 1, 9), ranked("c", 5, 5)
	tellsNone(t, wake(0), nil, impl.ErrNone)
	tellsNone(t, wake(impl.MaxNow), []impl.Peer{}, impl.ErrNone)
	tellsNone(t, wake(5), []impl.Peer{gone(a)}, impl.ErrNone)
	tellsNone(t, wake(5), []impl.Peer{gone(a), gone(until(b, 3)), gone(until(c, 8))}, impl.ErrNone)
	for _, now := range []int{0, 1, 5, impl.MaxNow} {
		tells(t, wake(now), []impl.Peer{a}, now)
		tells(t, wake(now), []impl.Peer{until(a, 1000032), b}, now)
		tells(t, wake(now), []impl.Peer{gone(a), b}, now)
	}
	// RetryAt before, at and after now.
	for at := range 12 {
		for now := range 12 {
			tells(t, wake(now), []impl.Peer{until(a, at)}, max(now, at))
			tells(t, wake(now), []impl.Peer{until(a, at), until(b, 6)}, max(now, min(at, 6)))
			tells(t, wake(now), []impl.Peer{until(c, 50), until(b, 6), until(a, at)}, max(now, min(at, 6)))
			tells(t, wake(now), []impl.Peer{until(c, 50), gone(until(b, 6)), until(a, at)}, max(now, at))
			tells(t, wake(now), []impl.Peer{gone(until(c, 0)), gone(until(b, 6)), until(a, at)}, max(now, at))
			tells(t, wake(now), []impl.Peer{until(c, 50), gone(b), gone(until(a, at))}, 50)
		}
	}
	for _, at := range []int{impl.MaxNow - 1, impl.MaxNow, impl.MaxNow + 1, impl.MaxNow + 32} {
		tells(t, wake(0), []impl.Peer{until(a, at)}, at)
		tells(t, wake(impl.MaxNow), []impl.Peer{until(a, at)}, max(impl.MaxNow, at))
		tells(t, wake(impl.MaxNow), []impl.Peer{until(a, at), gone(b), until(c, impl.MaxNow+32)}, max(impl.MaxNow, at))
	}
}
