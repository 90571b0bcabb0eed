package impl

import (
	"strconv"
	"strings"
)

const (
	MaxUrl  = 100
	MaxPort = 65535
)

type Url struct {
	Scheme, User, Host    string
	Port                  int
	Path, Query, Fragment string
	HasQuery, HasFragment bool
}

func ParseUrl(t string) (Url, int) {
	if len(t) > MaxText {
		return Url{}, ErrLong
	}
	scheme, rest, found := strings.Cut(t, ":")
	if !found {
		return Url{}, ErrForm
	}
	u, ok := splitUrl(lowerText(scheme), rest)
	if !ok || !UrlOK(u) {
		return Url{}, ErrForm
	}
	return ownParts(u), OK
}

func splitUrl(scheme, rest string) (Url, bool) {
	if isWeb(scheme) {
		return splitWeb(scheme, rest)
	}
	rest, _, _ = strings.Cut(rest, "#")
	rest, _, _ = strings.Cut(rest, "?")
	return Url{Scheme: scheme, Path: rest}, true
}

// splitWeb splits from the end, because a later part may contain the
// separators of the parts before it.
func splitWeb(scheme, rest string) (Url, bool) {
	u := Url{Scheme: scheme}
	rest, ok := strings.CutPrefix(rest, "//")
	if !ok {
		return Url{}, false
	}
	rest, u.Fragment, u.HasFragment = strings.Cut(rest, "#")
	rest, u.Query, u.HasQuery = strings.Cut(rest, "?")
	rest, path, _ := strings.Cut(rest, "/")
	u.Path = "/" + path
	if user, behind, found := strings.Cut(rest, "@"); found {
		u.User, rest = user, behind
	}
	host, port, hasPort := strings.Cut(rest, ":")
	u.Host = lowerText(host)
	if hasPort {
		u.Port, ok = readPort(scheme, port)
	}
	return u, ok
}

// readPort returns 0 for the scheme's default port, but not for the text "0".
func readPort(scheme, t string) (int, bool) {
	n, ok := readInt(t)
	if !ok || n < 1 || n > MaxPort {
		return 0, false
	}
	if n == defaultPort(scheme) {
		return 0, true
	}
	return n, true
}

// ownParts copies the parts that are still cut out of the parsed text: a URL
// of a few bytes would keep all of that text in memory.
func ownParts(u Url) Url {
	u.User = strings.Clone(u.User)
	u.Path = strings.Clone(u.Path)
	u.Query = strings.Clone(u.Query)
	u.Fragment = strings.Clone(u.Fragment)
	return u
}

func isWeb(scheme string) bool {
	switch scheme {
	case "http", "https":
		return true
	}
	return false
}

// defaultPort returns 0, which is no port, for a scheme of other URLs.
func defaultPort(scheme string) int {
	switch scheme {
	case "http":
		return 80
	case "https":
		return 443
	}
	return 0
}

func UrlOK(u Url) bool {
	// The first check keeps enormous parts from being read and joined.
	return partsLength(u) <= MaxUrl && fieldsOK(u) && len(joinUrl(u)) <= MaxUrl
}

func partsLength(u Url) int {
	return len(u.Scheme) + len(u.User) + len(u.Host) + len(u.Path) + len(u.Query) + len(u.Fragment)
}

func fieldsOK(u Url) bool {
	if !schemeOK(u.Scheme) {
		return false
	}
	if isWeb(u.Scheme) {
		return webOK(u)
	}
	return u == Url{Scheme: u.Scheme, Path: u.Path} && partOK(u.Path, "?#")
}

func schemeOK(t string) bool {
	if t == "" || len(t) > MaxName {
		return false
	}
	for i, c := range t {
		if !isLower(c) && (i == 0 || !isDigit(c) && c != '-' && c != '+' && c != '.') {
			return false
		}
	}
	return true
}

func webOK(u Url) bool {
	return partOK(u.User, "/?#@") && hostOK(u.Host) && portOK(u) &&
		strings.HasPrefix(u.Path, "/") && partOK(u.Path, "?#") &&
		partOK(u.Query, "#") && (u.HasQuery || u.Query == "") &&
		partOK(u.Fragment, "") && (u.HasFragment || u.Fragment == "")
}

func partOK(t, separators string) bool {
	for _, c := range t {
		if c < 33 || c > 126 || strings.ContainsRune(separators, c) {
			return false
		}
	}
	return true
}

func hostOK(t string) bool {
	// Starting as if behind a joint also rejects a host that is empty or begins
	// with one.
	afterJoint := true
	for _, c := range t {
		joint := c == '-' || c == '.'
		if joint && afterJoint || !joint && !isLower(c) && !isDigit(c) {
			return false
		}
		afterJoint = joint
	}
	return !afterJoint
}

func portOK(u Url) bool {
	return u.Port >= 0 && u.Port <= MaxPort && u.Port != defaultPort(u.Scheme)
}

func UrlText(u Url) (string, int) {
	if !UrlOK(u) {
		return "", ErrBad
	}
	return joinUrl(u), OK
}

func joinUrl(u Url) string {
	if !isWeb(u.Scheme) {
		return u.Scheme + ":" + u.Path
	}
	t := u.Scheme + "://"
	if u.User != "" {
		t += u.User + "@"
	}
	t += hostText(u) + u.Path
	if u.HasQuery {
		t += "?" + u.Query
	}
	if u.HasFragment {
		t += "#" + u.Fragment
	}
	return t
}

func hostText(u Url) string {
	if u.Port == 0 {
		return u.Host
	}
	return u.Host + ":" + strconv.Itoa(u.Port)
}

func OriginOf(u Url) (string, int) {
	if !UrlOK(u) {
		return "", ErrBad
	}
	if !isWeb(u.Scheme) {
		return "", ErrScheme
	}
	return u.Scheme + "://" + hostText(u), OK
}

func SameOrigin(a, b Url) bool {
	if !UrlOK(a) || !UrlOK(b) || !isWeb(a.Scheme) {
		return false
	}
	return a.Scheme == b.Scheme && a.Host == b.Host && a.Port == b.Port
}

func StripUrl(u Url) (string, int) {
	if !UrlOK(u) {
		return "", ErrBad
	}
	if !isWeb(u.Scheme) {
		return strings.Clone(u.Scheme), OK
	}
	u.User, u.Fragment, u.HasFragment = "", "", false
	return joinUrl(u), OK
}

func StripText(t string) string {
	// The zero Url of a text without a URL is invalid, so its stripped text is
	// empty.
	u, _ := ParseUrl(t)
	stripped, _ := StripUrl(u)
	return stripped
}
