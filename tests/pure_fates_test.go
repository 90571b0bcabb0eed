package tests

import (
	"fmt"
	"math"
	"slices"
	"testing"

	"loop.example/g00779/impl"
)

// hardIds are asked for in every hard pipeline, hardKinds too.
var (
	hardIds   = []int{math.MinInt, -1, 0, 1, 2, 7, 10, 50, 4096, 1000000, math.MaxInt}
	hardKinds = []int{math.MinInt, -1, 0, 1, 2, 3, 4, 5, 6, 7, 8, math.MaxInt}
)

// fateCall is a call of a function of chapter 10, with all results as a text and
// the places of the list among them.
type fateCall func(impl.Pipe) (text string, places []any)

func everyFateCall() []fateCall {
	var list []fateCall
	for _, id := range hardIds {
		list = append(list, func(p impl.Pipe) (string, []any) {
			fate, code := impl.FateOf(p, id)
			return fmt.Sprint(fate, code), nil
		}, func(p impl.Pipe) (string, []any) {
			entries, code := impl.EntriesOf(p, id)
			return fmt.Sprint(entries, code), allPlaces(entries)
		})
	}
	for _, kind := range hardKinds {
		list = append(list, func(p impl.Pipe) (string, []any) {
			ids, code := impl.IdsOf(p, kind)
			return fmt.Sprint(ids, code), allPlaces(ids)
		})
	}
	return append(list, func(p impl.Pipe) (string, []any) {
		counts, code := impl.CountFates(p)
		return fmt.Sprint(counts, code), allPlaces(counts)
	}, func(p impl.Pipe) (string, []any) {
		ids, code := impl.QueuedNow(p)
		return fmt.Sprint(ids, code), allPlaces(ids)
	}, func(p impl.Pipe) (string, []any) {
		yes, code := impl.OneFate(p)
		return fmt.Sprint(yes, code), nil
	})
}

// fateCalls returns a call of every function of chapter 10 for every hard
// argument.
func fateCalls() []func() string {
	var list []func() string
	for _, p := range hardPipes() {
		for _, call := range everyFateCall() {
			list = append(list, func() string { s, _ := call(p); return s })
		}
	}
	return list
}

// TestFatesChangeNothing: a pipeline is the same after every call, and so is
// what it does not use.
func TestFatesChangeNothing(t *testing.T) {
	for _, p := range hardPipes() {
		before := wholePipe(p)
		for _, call := range everyFateCall() {
			call(p)
		}
		if !equalPipes(wholePipe(p), before) {
			t.Errorf("%s was changed", briefPipe(before))
		}
	}
}

// TestFatesAreNew: no list shares memory with an argument or with another list.
func TestFatesAreNew(t *testing.T) {
	found := 0
	for _, p := range hardPipes() {
		seen := map[any]bool{}
		for _, place := range pipePlaces(p) {
			seen[place] = true
		}
		for _, call := range append(everyFateCall(), everyFateCall()...) {
			_, places := call(p)
			for _, place := range places {
				if seen[place] {
					t.Fatalf("a list shares memory: %s", briefPipe(p))
				}
				seen[place] = true
			}
			found += len(places)
		}
	}
	if found < 10000 {
		t.Errorf("only %d places", found)
	}
}

// TestChangesOfFates: a change of a list is not seen in the argument nor in the
// next list, and one of the argument is not seen in the list.
func TestChangesOfFates(t *testing.T) {
	pipes := []impl.Pipe{allFates(t), laden(), waiting(5), limited(4096, 1), holding(logged(9, [2]int{6, 5}, [2]int{1, 2}), []int{2, 4}, []int{3})}
	for _, p := range pipes {
		for id := range 20 {
			argument := apart(p)
			entries, _ := impl.EntriesOf(argument, id)
			want := slices.Clone(entries)
			again, _ := impl.EntriesOf(argument, id)
			fill(again, entry(9, 9, 9))
			if !equalPipes(argument, p) || !slices.Equal(entries, want) {
				t.Fatalf("a change of entries of %d is seen: %s", id, briefPipe(p))
			}
			changePipe(argument)
			if !slices.Equal(entries, want) {
				t.Fatalf("entries of %d were changed with the argument: %s", id, briefPipe(p))
			}
		}
		for kind := 1; kind <= 7; kind++ {
			unchanged(t, p, func(p impl.Pipe) []int { ids, _ := impl.IdsOf(p, kind); return ids })
		}
		unchanged(t, p, func(p impl.Pipe) []int { counts, _ := impl.CountFates(p); return counts })
		unchanged(t, p, func(p impl.Pipe) []int { ids, _ := impl.QueuedNow(p); return ids })
	}
}

func unchanged(t *testing.T, p impl.Pipe, call func(impl.Pipe) []int) {
	t.Helper()
	argument := apart(p)
	list := call(argument)
	want := slices.Clone(list)
	fill(call(argument), -1)
	if !equalPipes(argument, p) || !slices.Equal(list, want) || !slices.Equal(call(argument), want) {
		t.Fatalf("a change of %v is seen: %s", want, briefPipe(p))
	}
	changePipe(argument)
	if !slices.Equal(list, want) {
		t.Fatalf("%v was changed with the argument: %s", want, briefPipe(p))
	}
}
