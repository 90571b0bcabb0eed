package tests

import (
	"fmt"
	"math"
	"math/rand"
	"strings"
	"sync"
	"testing"

	"loop.example/g00779/impl"
)

// hardTexts are arguments that are ordinary, invalid, too long, or no text at
// all.
func hardTexts() []string {
	r := rand.New(rand.NewSource(4))
	texts := []string{"", ":", "://", "http://", "http://x:80/", "https://u@x:443/p?q#f", "data:a?b#c", "ok", "same", "a_9", "\xff\xfe", "\u212a", "\x00"}
	for _, n := range []int{12, 13, 100, 101, impl.MaxText, impl.MaxText + 1, 1 << 20} {
		texts = append(texts, strings.Repeat("a", n), strings.Repeat(":", n), strings.Repeat("\x80", n), padded("http://x/", n+9))
	}
	for i := 0; i < 300; i++ {
		texts = append(texts, randomText(r))
	}
	for i := 0; i < 300; i++ {
		b := make([]byte, r.Intn(40))
		r.Read(b)
		texts = append(texts, string(b), "http://"+string(b))
	}
	return texts
}

func hardUrls() []impl.Url {
	r := rand.New(rand.NewSource(5))
	long := strings.Repeat("a", 1<<20)
	urls := []impl.Url{
		{},
		{Scheme: long, User: long, Host: long, Port: math.MaxInt, Path: "/" + long, Query: long, Fragment: long, HasQuery: true, HasFragment: true},
		{Scheme: "http", Host: "x", Port: math.MinInt, Path: "/"},
		{Scheme: "http", Host: "x", Port: math.MaxInt, Path: "/"},
		{Scheme: "https", Host: "x", Path: "/", Query: long},
		{Scheme: "https", Host: "x", Path: "/", Query: long, HasQuery: true},
	}
	for i := 0; i < 300; i++ {
		urls = append(urls, randomUrl(r))
	}
	return urls
}

// calls returns a call of every function that is built so far for every hard
// argument; each returns its results as a text.
func calls() []func() string {
	var list []func() string
	for _, s := range hardTexts() {
		list = append(list,
			func() string { return fmt.Sprint(impl.NameOK(s)) },
			func() string { return fmt.Sprint(impl.CodeOf(s)) },
			func() string { u, code := impl.ParseUrl(s); return fmt.Sprintf("%+v %d", u, code) },
			func() string { return impl.StripText(s) },
		)
	}
	urls := hardUrls()
	for i, u := range urls {
		v := urls[(i*7+1)%len(urls)]
		list = append(list,
			func() string { return fmt.Sprint(impl.UrlOK(u)) },
			func() string { s, code := impl.UrlText(u); return fmt.Sprint(s, code) },
			func() string { s, code := impl.OriginOf(u); return fmt.Sprint(s, code) },
			func() string { s, code := impl.StripUrl(u); return fmt.Sprint(s, code) },
			func() string { return fmt.Sprint(impl.SameOrigin(u, u), impl.SameOrigin(u, v)) },
		)
	}
	for _, n := range []int{math.MinInt, -1, 0, 1, 17, 18, 19, 1 << 32, math.MaxInt} {
		list = append(list, func() string { return impl.CodeWord(n) })
	}
	return list
}

// TestResultsDependOnArgumentsOnly makes all calls in order, then backwards,
// then from several goroutines at once: the results are the same.
func TestResultsDependOnArgumentsOnly(t *testing.T) {
	list := calls()
	first := make([]string, len(list))
	for i, call := range list {
		first[i] = call()
	}
	for i := len(list) - 1; i >= 0; i-- {
		if again := list[i](); again != first[i] {
			t.Errorf("call %d: first %.200q, then %.200q", i, first[i], again)
		}
	}
	var wait sync.WaitGroup
	for k := 0; k < 4; k++ {
		wait.Go(func() {
			for i := range list {
				j := (i + k*len(list)/4) % len(list)
				if again := list[j](); again != first[j] {
					t.Errorf("call %d in a goroutine: first %.200q, then %.200q", j, first[j], again)
				}
			}
		})
	}
	wait.Wait()
}

// TestEqualArguments: arguments that are equal but stored elsewhere yield
// equal results.
func TestEqualArguments(t *testing.T) {
	list, equal := calls(), calls()
	for i := range list {
		if a, b := list[i](), equal[i](); a != b {
			t.Errorf("call %d: %.200q and %.200q", i, a, b)
		}
	}
}

// TestArgumentsUnchanged: a URL and a text are the same after every call.
func TestArgumentsUnchanged(t *testing.T) {
	for _, s := range hardTexts() {
		before := strings.Clone(s)
		impl.NameOK(s)
		impl.CodeOf(s)
		impl.ParseUrl(s)
		impl.StripText(s)
		if s != before {
			t.Errorf("the text %.100q was changed", before)
		}
	}
	for _, u := range hardUrls() {
		before := u
		for _, field := range []*string{&before.Scheme, &before.User, &before.Host, &before.Path, &before.Query, &before.Fragment} {
			*field = strings.Clone(*field)
		}
		impl.UrlOK(u)
		impl.UrlText(u)
		impl.OriginOf(u)
		impl.StripUrl(u)
		impl.SameOrigin(u, u)
		if u != before {
			t.Errorf("the URL %s was changed", brief(before))
		}
	}
}
