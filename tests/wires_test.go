package tests

import (
	"fmt"
	"math"
	"slices"
	"strings"
	"testing"

	"loop.example/g00779/impl"
)

func parcel(id, age int, body string) impl.Parcel {
	return impl.Parcel{Id: id, Age: age, Body: body}
}

// parcels returns n valid parcels that are all different.
func parcels(n int) []impl.Parcel {
	bodies := []string{`{}`, `{"a":[1,"x"],"b":{"c":null}}`, `{"\u000a/\"\\":"\u00ff"}`, `{"b":-1,"a":true}`}
	var list []impl.Parcel
	for i := range n {
		list = append(list, parcel(3+7*i, 1000*i, bodies[i%4]))
	}
	return list
}

// sentText is the text of parcels in a wire, whatever their bodies are.
func sentText(list ...impl.Parcel) string {
	var items []string
	for _, x := range list {
		items = append(items, fmt.Sprintf(`{"age":%d,"body":%s,"id":%d}`, x.Age, x.Body, x.Id))
	}
	return "[" + strings.Join(items, ",") + "]"
}

func idsOf(list []impl.Parcel) []int {
	var ids []int
	for _, x := range list {
		ids = append(ids, x.Id)
	}
	return ids
}

func briefParcels(list []impl.Parcel) string {
	return fmt.Sprintf("%d parcels %.500q", len(list), fmt.Sprintf("%+v", newest(list, 5)))
}

// readsParcels checks the functions that read a text.
func readsParcels(t *testing.T, text string, want ...impl.Parcel) {
	t.Helper()
	if list, code := impl.ReadParcels(text); !slices.Equal(list, want) || code != impl.OK {
		t.Errorf("ReadParcels(%.300q) = %s, %d, not %s", text, briefParcels(list), code, briefParcels(want))
	}
	takesParcels(t, impl.Wire{Ids: idsOf(want), Body: text}, want...)
}

func takesParcels(t *testing.T, w impl.Wire, want ...impl.Parcel) {
	t.Helper()
	if list, code := impl.ParcelsOf(w); !slices.Equal(list, want) || code != impl.OK {
		t.Errorf("ParcelsOf(%.300q) = %s, %d, not %s", fmt.Sprintf("%+v", w), briefParcels(list), code, briefParcels(want))
	}
}

// refusesParcels checks that no text with this error is read, whatever Ids
// there are.
func refusesParcels(t *testing.T, text string, want int) {
	t.Helper()
	if list, code := impl.ReadParcels(text); len(list) != 0 || code != want {
		t.Errorf("ReadParcels(%.300q) = %s, %d, not the code %d", text, briefParcels(list), code, want)
	}
	if len(text) > impl.MaxText {
		want = impl.ErrBad
	}
	for _, ids := range [][]int{nil, {3}, {3, 10, 17}, make([]int, impl.MaxList)} {
		refusesWire(t, impl.Wire{Ids: ids, Body: text}, want)
	}
}

func refusesWire(t *testing.T, w impl.Wire, want int) {
	t.Helper()
	if list, code := impl.ParcelsOf(w); len(list) != 0 || code != want {
		t.Errorf("ParcelsOf(%.300q) = %s, %d, not the code %d", fmt.Sprintf("%+v", w), briefParcels(list), code, want)
	}
}

// printsParcels checks the text of valid parcels, and that they are recovered
// from it.
func printsParcels(t *testing.T, list ...impl.Parcel) {
	t.Helper()
	text := sentText(list...)
	if s, code := impl.ParcelsText(list); s != text || code != impl.OK {
		t.Errorf("ParcelsText(%s) = %.300q, %d, not %.300q", briefParcels(list), s, code, text)
	}
	readsParcels(t, text, list...)
}

func noParcelsText(t *testing.T, want int, list ...impl.Parcel) {
	t.Helper()
	if s, code := impl.ParcelsText(list); s != "" || code != want {
		t.Errorf("ParcelsText(%s) = %.300q, %d, not the code %d", briefParcels(list), s, code, want)
	}
}

// isParcel and noParcel check a parcel alone and in each place of a list.
func isParcel(t *testing.T, x impl.Parcel) {
	t.Helper()
	if !impl.ParcelOK(x) {
		t.Errorf("ParcelOK: %s are valid", briefParcels([]impl.Parcel{x}))
	}
	for n := range impl.MaxBatch {
		for i := range n + 1 {
			printsParcels(t, slices.Insert(parcels(n), i, x)...)
		}
	}
	printsParcels(t, x, x, x)
}

func noParcel(t *testing.T, x impl.Parcel) {
	t.Helper()
	if impl.ParcelOK(x) {
		t.Errorf("ParcelOK: %s are invalid", briefParcels([]impl.Parcel{x}))
	}
	for n := range impl.MaxBatch {
		for i := range n + 1 {
			noParcelsText(t, impl.ErrBad, slices.Insert(parcels(n), i, x)...)
		}
	}
	noParcelsText(t, impl.ErrBad, x, x, x)
	noParcelsText(t, impl.ErrMany, slices.Insert(parcels(3), 1, x)...)
}

// isBody and noBody check the body of a parcel; noBody tells nothing of what is
// read from a wire.
func isBody(t *testing.T, body string) {
	t.Helper()
	isParcel(t, parcel(7, 5, body))
}

func noBody(t *testing.T, body string) {
	t.Helper()
	noParcel(t, parcel(7, 5, body))
}

// readsBody checks a body that is written in another form than JsonText's.
func readsBody(t *testing.T, written, body string) {
	t.Helper()
	for n := range impl.MaxBatch {
		for i := range n + 1 {
			list := slices.Insert(parcels(n), i, parcel(7, 5, written))
			text := sentText(list...)
			list[i].Body = body
			readsParcels(t, text, list...)
		}
	}
}

// refusesBody checks a body with which a wire has no parcels.
func refusesBody(t *testing.T, written string, want int) {
	t.Helper()
	for n := range impl.MaxBatch {
		for i := range n + 1 {
			refusesParcels(t, sentText(slices.Insert(parcels(n), i, parcel(7, 5, written))...), want)
		}
	}
}

func TestParcelNumbers(t *testing.T) {
	for _, id := range []int{1, 2, 500, 999999, 1000000} {
		isParcel(t, parcel(id, 5, "{}"))
	}
	for _, id := range []int{math.MinInt, -1000000, -1, 0, 1000001, 999999999, 1 << 32, 1<<32 + 1, math.MaxInt} {
		noParcel(t, parcel(id, 5, "{}"))
	}
	for _, age := range []int{0, 1, 500, 999999, 1000000} {
		isParcel(t, parcel(7, age, "{}"))
	}
	for _, age := range []int{math.MinInt, -1000000, -2, -1, 1000001, 999999999, 1 << 32, 1<<32 + 1, math.MaxInt} {
		noParcel(t, parcel(7, age, "{}"))
	}
	isParcel(t, parcel(1, 1000000, "{}"))
	isParcel(t, parcel(1000000, 0, "{}"))
	noParcel(t, impl.Parcel{})
	noParcel(t, parcel(0, 0, "{}"))
	noParcel(t, parcel(7, 0, ""))
}

func TestParcelBodies(t *testing.T) {
	for _, body := range []string{
		`{}`, `{"":""}`, `{"a":null}`, `{"a":true,"b":false}`, `{"b":1,"a":2}`, `{"a":0,"A":-1}`, `{"a":999999999,"b":-999999999}`, `{"a":"{}"}`,
		`{"a":[1,2,3]}`, `{"a":{"b":1,"c":"d"},"e":[null]}`, `{"age":7,"body":{"age":0},"id":1}`, `{"id":-5}`, `{"a":"]},{"}`, `{"\"":"\\"}`, `{"\u0000":"\u00ff\u007f"}`,
		mustText(numbered(12)), `{"` + strings.Repeat("n", 120) + `":"` + strings.Repeat("t", 120) + `"}`,
	} {
		isBody(t, body)
	}
	for _, body := range []string{
		"", " ", "null", "true", "0", "1", "-1", `""`, `"{}"`, "[]", "[{}]", `[1,2]`, `["a",1]`,
		"{", "}", "{]", "{}}", "{{}", "{{}}", "{}{}", "{},{}", "{}x", "x{}", "{} {}", "{}[]", `{"a"}`, `{"a":}`, `{"a":1,}`, `{,"a":1}`, `{"a":1"b":2}`, `{a:1}`, `{1:1}`, `{'a':1}`, `{"a":x}`, `{"a":1`, `"a":1}`, "\x00", "{\x00}", "\ufeff{}",
		`{"a":1,"a":1}`, `{"a":1,"b":2,"a":3}`, `{"a":{"b":1,"b":2}}`, `{"a":1000000000}`, `{"a":-1000000000}`, `{"a":1000000000000000000}`,
		`{"` + strings.Repeat("n", 121) + `":1}`, `{"a":"` + strings.Repeat("t", 121) + `"}`, mustText(numbered(12))[:10] + "}", `{"a":[` + joined(13, "1") + `]}`, strings.TrimSuffix(mustText(numbered(12)), "}") + `,"x":1}`,
		// With these, a text might be read that has other members or more parcels.
		`{},"id":7`, `{},"x":{}`, `{},"age":5`, `{},"id":7},{"age":5,"body":{}`, `{}}`, `{}]`, `{"a":{}`,
	} {
		noBody(t, body)
	}
	isBody(t, `{"a":[`+joined(12, "1")+`]}`)
}

// TestBodiesInOtherForms: the body of a parcel is the text of an object in one
// form only; in a wire it may have any.
func TestBodiesInOtherForms(t *testing.T) {
	for _, v := range []struct{ written, body string }{
		{`{ }`, `{}`}, {" {}", `{}`}, {"{}\n", `{}`}, {"\t{\r}", `{}`}, {"{}" + strings.Repeat(" ", 9000), `{}`},
		{`{"a": 1}`, `{"a":1}`}, {`{"a" :1}`, `{"a":1}`}, {`{ "a":1}`, `{"a":1}`}, {`{"a":1 }`, `{"a":1}`}, {"{\n\t\"a\": 1,\n\t\"b\": [ ]\n}", `{"a":1,"b":[]}`}, {`{"a":[1, 2]}`, `{"a":[1,2]}`}, {`{"a":{"b":1} ,"c":2}`, `{"a":{"b":1},"c":2}`},
		{`{"\u0061":1}`, `{"a":1}`}, {`{"a":"\u0061"}`, `{"a":"a"}`}, {`{"a":"\/"}`, `{"a":"/"}`}, {`{"\/":1}`, `{"/":1}`}, {`{"a":"\u002f"}`, `{"a":"/"}`}, {`{"a":"\n"}`, `{"a":"\u000a"}`}, {`{"a":"\u000A"}`, `{"a":"\u000a"}`}, {`{"\t":1}`, `{"\u0009":1}`}, {`{"a":"\b\f\r"}`, `{"a":"\u0008\u000c\u000d"}`}, {`{"a":"\u0022"}`, `{"a":"\""}`}, {`{"a":"\u005C"}`, `{"a":"\\"}`}, {`{"a":"\u00Ff"}`, `{"a":"\u00ff"}`}, {`{"\u00FF":1}`, `{"\u00ff":1}`}, {`{"a":"\u0020"}`, `{"a":" "}`},
	} {
		noBody(t, v.written)
		readsBody(t, v.written, v.body)
		isBody(t, v.body)
	}
	// Numbers have one form only.
	for _, number := range []string{"-0", "01", "00", "+1", "1.0", "1.", ".5", "1e0", "1E5", "0x1", "- 1", "--1", "1_0", "٣"} {
		noBody(t, `{"a":`+number+`}`)
		refusesBody(t, `{"a":`+number+`}`, impl.ErrForm)
	}
}

// TestEveryByteOfBodies writes every byte in every form, in a text and in a
// name.
func TestEveryByteOfBodies(t *testing.T) {
	short := map[int]string{'"': `\"`, '\\': `\\`, '/': `\/`, 8: `\b`, 12: `\f`, 10: `\n`, 13: `\r`, 9: `\t`}
	for b := range 256 {
		c := string([]byte{byte(b)})
		quoted := quotedByModel(c)
		form := quoted[1 : len(quoted)-1]
		ways := []string{fmt.Sprintf(`\u00%02x`, b), fmt.Sprintf(`\u00%02X`, b)}
		if b >= 32 && b <= 126 && c != `"` && c != `\` {
			ways = append(ways, c)
		} else if c != `"` && c != `\` {
			noBody(t, `{"a":"`+c+`"}`)
			refusesBody(t, `{"a":"`+c+`"}`, impl.ErrForm)
		}
		if s, ok := short[b]; ok {
			ways = append(ways, s)
		}
		found := false
		for _, way := range ways {
			for _, around := range [][2]string{{`{"a":"`, `"}`}, {`{"x`, `y":1}`}, {`{"a":["z","`, `z"]}`}} {
				written, body := around[0]+way+around[1], around[0]+form+around[1]
				if written == body {
					found = true
					isBody(t, body)
				} else {
					noBody(t, written)
					readsBody(t, written, body)
				}
			}
		}
		if !found {
			t.Errorf("no way to write the byte %d", b)
		}
	}
}

// bulky returns an object of two or three levels whose text has n bytes, which
// are at least 100.
func bulky(n int) string {
	j := object()
	for i := range 12 {
		j.Names = append(j.Names, fmt.Sprintf("%02d", i))
		j.Items = append(j.Items, list())
	}
	for i := 0; len(mustText(j)) < n; i++ {
		items := &j.Items[i/12].Items
		// A text has two quotes, and a comma is before all but the first.
		left := n - len(mustText(j)) - 2 - min(len(*items), 1)
		if left > 120 && left < 124 {
			left = 110
		}
		*items = append(*items, text(strings.Repeat("x", min(left, 120))))
	}
	return mustText(j)
}

// TestBodyLengths: a body has at most MaxBody bytes, and no text of one that is
// longer is read, however short it is in the wire.
func TestBodyLengths(t *testing.T) {
	for _, n := range []int{100, 1000, 7998, 7999, 8000} {
		if body := bulky(n); len(body) != n {
			t.Fatalf("a body of %d bytes has %d", n, len(body))
		} else {
			isBody(t, body)
			readsBody(t, " "+body, body)
			noBody(t, " "+body)
		}
	}
	for _, n := range []int{8001, 8002, 8100, 17000} {
		if body := bulky(n); len(body) != n {
			t.Fatalf("a body of %d bytes has %d", n, len(body))
		} else {
			noBody(t, body)
			refusesBody(t, body, impl.ErrForm)
			refusesBody(t, " "+body, impl.ErrForm)
		}
	}
	for _, n := range []int{65536, 65537, 1 << 20} {
		noBody(t, strings.Repeat("{", n))
		noBody(t, "{}"+strings.Repeat(" ", n))
	}
	// Every escape is three times as long in JsonText.
	for _, v := range []struct {
		texts, rest int
		ok          bool
	}{{10, 120, true}, {11, 0, true}, {11, 5, true}, {11, 6, false}, {11, 7, false}, {12, 0, false}} {
		escape := func(way string) string {
			full := `"` + strings.Repeat(way, 120) + `"`
			return `{"a":[` + joined(v.texts, full) + `],"b":"` + strings.Repeat(way, v.rest) + `"}`
		}
		written, body := escape(`\n`), escape(`\u000a`)
		if (len(body) <= 8000) != v.ok || len(written) > 4000 {
			t.Fatalf("%d bytes are written for %d", len(written), len(body))
		}
		if v.ok {
			isBody(t, body)
			readsBody(t, written, body)
		} else {
			noBody(t, body)
			refusesBody(t, written, impl.ErrForm)
		}
	}
}

// TestBodyLevels nests values in lists and objects: a body has at most three
// levels, of which an empty list or object has two.
func TestBodyLevels(t *testing.T) {
	for _, v := range []struct {
		inner string
		most  int
	}{
		{"null", 2}, {"true", 2}, {"1", 2}, {`""`, 2}, {"[]", 1}, {"{}", 1}, {"[1]", 1}, {`{"b":1}`, 1}, {"[null,2]", 1}, {"[[]]", 0}, {"[{}]", 0}, {`{"b":[]}`, 0}, {`[1,[2]]`, 0}, {`{"b":1,"c":{"d":1}}`, 0},
	} {
		for n := 1; n <= 6; n++ {
			for _, inner := range []string{
				strings.Repeat(`{"a":`, n-1) + v.inner + strings.Repeat("}", n-1),
				strings.Repeat("[", n-1) + v.inner + strings.Repeat("]", n-1),
				strings.Repeat("[0,", n-1) + v.inner + strings.Repeat("]", n-1),
			} {
				for _, body := range []string{`{"a":` + inner + `}`, `{"x":1,"a":` + inner + `,"y":[2]}`} {
					if n <= v.most {
						isBody(t, body)
					} else {
						noBody(t, body)
						refusesBody(t, body, impl.ErrDeep)
					}
				}
			}
		}
	}
	isBody(t, `{"a":[],"b":{},"c":[1],"d":{"e":2}}`)
	isBody(t, `{}`)
	noBody(t, `{"a":[],"b":{},"c":[1],"d":{"e":{}}}`)
	noBody(t, `{"a":[[]],"b":1}`)
}

func TestParcelsText(t *testing.T) {
	for n := range impl.MaxBatch + 1 {
		printsParcels(t, parcels(n)...)
		printsParcels(t, slices.Repeat(parcels(1), n)...)
		reverse := parcels(n)
		slices.Reverse(reverse)
		printsParcels(t, reverse...)
	}
	if s, code := impl.ParcelsText([]impl.Parcel{}); s != "[]" || code != impl.OK {
		t.Errorf("ParcelsText of no parcels = %q, %d", s, code)
	}
	s, code := impl.ParcelsText([]impl.Parcel{parcel(3, 0, `{"a":"\/"}`)})
	if s != "" || code != impl.ErrBad {
		t.Errorf("ParcelsText of an invalid parcel = %q, %d", s, code)
	}
	s, code = impl.ParcelsText([]impl.Parcel{parcel(1000000, 0, `{}`), parcel(1, 1000000, `{"b":1,"a":[]}`)})
	if s != `[{"age":0,"body":{},"id":1000000},{"age":1000000,"body":{"b":1,"a":[]},"id":1}]` || code != impl.OK {
		t.Errorf("ParcelsText = %q, %d", s, code)
	}
	// The longest text.
	full := parcel(1000000, 1000000, bulky(8000))
	printsParcels(t, full, full, full)
}

// TestParcelCounts: too many parcels are refused, whatever they are.
func TestParcelCounts(t *testing.T) {
	for _, n := range []int{4, 5, 6, 12, 13, 100, 4095, 4096} {
		noParcelsText(t, impl.ErrMany, parcels(n)...)
		noParcelsText(t, impl.ErrMany, make([]impl.Parcel, n)...)
		for _, i := range []int{0, 1, 2, 3, n - 1} {
			list := parcels(n)
			list[i] = impl.Parcel{}
			noParcelsText(t, impl.ErrMany, list...)
		}
	}
	for _, n := range []int{4097, 4098, 1 << 16} {
		noParcelsText(t, impl.ErrLong, parcels(n)...)
		noParcelsText(t, impl.ErrLong, make([]impl.Parcel, n)...)
	}
}

// permutations returns every order of n numbers.
func permutations(n int) [][]int {
	if n == 0 {
		return [][]int{nil}
	}
	var all [][]int
	for _, order := range permutations(n - 1) {
		for i := range n {
			all = append(all, slices.Insert(slices.Clone(order), i, n-1))
		}
	}
	return all
}

// itemOf returns the item of a parcel with its members in an order.
func itemOf(x impl.Parcel, order []int) impl.Json {
	body, _ := impl.ReadJson(x.Body)
	names, values := []string{"age", "body", "id"}, []impl.Json{number(x.Age), body, number(x.Id)}
	j := object()
	for _, i := range order {
		j.Names, j.Items = append(j.Names, names[i]), append(j.Items, values[i])
	}
	return j
}

// TestOrdersOfMembers: the members of each item have any order, and whitespace
// is around every part.
func TestOrdersOfMembers(t *testing.T) {
	orders := permutations(3)
	if len(orders) != 6 {
		t.Fatal(orders)
	}
	choices := [][]int{{}}
	for n := range impl.MaxBatch + 1 {
		for _, choice := range choices {
			want, j := parcels(n), list()
			for i, x := range want {
				j.Items = append(j.Items, itemOf(x, orders[choice[i]]))
			}
			parts := jsonParts(j)
			for _, space := range []string{"", " ", "\n", "\r", "\t", " \r\n\t "} {
				readsParcels(t, space+strings.Join(parts, space)+space, want...)
			}
			for i := range parts {
				readsParcels(t, strings.Join(parts[:i], "")+" "+strings.Join(parts[i:], ""), want...)
			}
		}
		var longer [][]int
		for _, choice := range choices {
			for i := range orders {
				longer = append(longer, append(slices.Clone(choice), i))
			}
		}
		choices = longer
	}
}

// TestNamesOfMembers: a name may be written in any way.
func TestNamesOfMembers(t *testing.T) {
	readsParcels(t, `[{"\u0061ge":5,"bod\u0079":{},"\u0069\u0064":7}]`, parcel(7, 5, "{}"))
	readsParcels(t, `[{"i\u0064":7,"b\u006Fdy":{"\u0061":"\u0062"},"\u0061\u0067\u0065":5}]`, parcel(7, 5, `{"a":"b"}`))
	refusesParcels(t, `[{"age":5,"body":{},"id":7,"\u0069d":7}]`, impl.ErrAgain)
	refusesParcels(t, `[{"age":5,"body":{},"\\u0069d":7}]`, impl.ErrForm)
}

// jsonErrors are texts with each code of ReadJson.
var jsonErrors = []struct {
	text string
	code int
}{
	{"", impl.ErrForm}, {" ", impl.ErrForm}, {"[", impl.ErrForm}, {"]", impl.ErrForm}, {"[]]", impl.ErrForm}, {"[],", impl.ErrForm}, {"[] []", impl.ErrForm}, {"[]x", impl.ErrForm}, {"x", impl.ErrForm}, {"[1,]", impl.ErrForm}, {"\xff", impl.ErrForm}, {"{", impl.ErrForm},
	{`[{"age":5,"body":{},"id":7}`, impl.ErrForm}, {`{"age":5,"body":{},"id":7}]`, impl.ErrForm}, {`[{"age":5,"body":{},"id":7},]`, impl.ErrForm}, {`[{"age":5,"body":{},"id":07}]`, impl.ErrForm}, {`[{"age":-0,"body":{},"id":7}]`, impl.ErrForm}, {`[{"age":5,"body":{},"id":7.0}]`, impl.ErrForm}, {`[{"age":5 "body":{},"id":7}]`, impl.ErrForm}, {`[{age:5,"body":{},"id":7}]`, impl.ErrForm},
	{"[[[[[", impl.ErrDeep}, {`[{"age":5,"body":{"a":{"b":{}}},"id":7}]`, impl.ErrDeep}, {`[{"age":[[[]]]}]`, impl.ErrDeep}, {`{"a":[[[[`, impl.ErrDeep},
	{`["` + strings.Repeat("a", 121) + `"]`, impl.ErrSize}, {`[{"` + strings.Repeat("a", 121) + `":5}]`, impl.ErrSize}, {`"` + strings.Repeat("a", 121) + `"`, impl.ErrSize},
	{`[{"age":5,"body":{},"id":7,"id":7}]`, impl.ErrAgain}, {`[{"age":5,"age":5,"body":{},"id":7}]`, impl.ErrAgain}, {`[{"age":5,"body":{"a":1,"a":1},"id":7}]`, impl.ErrAgain}, {`{"a":1,"a":2}`, impl.ErrAgain},
	{`[{"age":5,"body":{},"id":1000000000}]`, impl.ErrRange}, {`[{"age":-1000000000,"body":{},"id":7}]`, impl.ErrRange}, {"1000000000", impl.ErrRange}, {"[-1000000000]", impl.ErrRange},
	{"[" + joined(13, "1") + "]", impl.ErrMany}, {`[{"age":5,"body":{"a":[` + joined(13, "1") + `]},"id":7}]`, impl.ErrMany}, {`{"a":[` + joined(13, "1") + `]}`, impl.ErrMany}, {"[" + joined(13, `{"age":5,"body":{},"id":7}`) + "]", impl.ErrMany},
}

// TestJsonErrors: the codes of ReadJson come before all others, also where
// there are too many items.
func TestJsonErrors(t *testing.T) {
	for _, v := range jsonErrors {
		refusesParcels(t, v.text, v.code)
		refuses(t, v.text, v.code)
		if item, ok := strings.CutPrefix(v.text, "["); ok && v.code != impl.ErrForm && v.code != impl.ErrMany {
			refusesParcels(t, "["+joined(4, "1")+","+item, v.code)
			refusesParcels(t, "[{},"+item, v.code)
		}
	}
	for _, n := range []int{impl.MaxText + 1, impl.MaxText + 2, 1 << 20} {
		for _, text := range []string{"x", "[", "[]", "{}", "[1,1,1,1]", "[[[[["} {
			refusesParcels(t, text+strings.Repeat(" ", n-len(text)), impl.ErrLong)
			refusesParcels(t, strings.Repeat(text, n/len(text)+1), impl.ErrLong)
		}
	}
}

// TestWireLengths fills texts up with whitespace.
func TestWireLengths(t *testing.T) {
	space := strings.Repeat(" ", impl.MaxText)
	for n := range impl.MaxBatch + 1 {
		want := parcels(n)
		if n == 3 {
			want[1].Body = bulky(8000)
		}
		text := sentText(want...)
		for _, size := range []int{impl.MaxText - 1, impl.MaxText} {
			readsParcels(t, text+space[:size-len(text)], want...)
			readsParcels(t, space[:size-len(text)]+text, want...)
			readsParcels(t, text[:1]+space[:size-len(text)]+text[1:], want...)
		}
		for _, long := range []string{text + space, text + space[:impl.MaxText-len(text)+1], space[:impl.MaxText-len(text)+1] + text, text[:1] + space[:impl.MaxText-len(text)+1] + text[1:]} {
			refusesParcels(t, long, impl.ErrLong)
			refusesWire(t, impl.Wire{Ids: idsOf(want), Body: long}, impl.ErrBad)
		}
	}
}

func TestNoLists(t *testing.T) {
	for _, text := range []string{
		"null", "true", "false", "0", "7", "-1", "999999999", `""`, `"[]"`, `"x"`, "{}", `{"a":1}`, `{"a":[]}`, " null ", "\n{ }",
		`{"age":5,"body":{},"id":7}`, `{"0":{"age":5,"body":{},"id":7}}`, mustText(numbered(12)), `{"a":1,"b":2,"c":3,"d":4}`,
	} {
		refusesParcels(t, text, impl.ErrKind)
	}
}

// TestItemCountsOfWires: four items are too many, whatever they are.
func TestItemCountsOfWires(t *testing.T) {
	good, items := `{"age":5,"body":{},"id":7}`, []string{"1", "null", "{}", "[]", `"a"`, `{"id":7}`, `{"age":5,"body":{},"id":0}`, `{"age":5,"body":{},"id":7,"x":1}`, `{"age":5,"body":[],"id":7}`}
	for n := 4; n <= 12; n++ {
		refusesParcels(t, "["+joined(n, good)+"]", impl.ErrMany)
		for _, item := range items {
			refusesParcels(t, "["+joined(n, item)+"]", impl.ErrMany)
			for i := range n {
				list := slices.Repeat([]string{good}, n)
				list[i] = item
				refusesParcels(t, "["+strings.Join(list, ",")+"]", impl.ErrMany)
			}
		}
	}
	for n := 1; n <= 3; n++ {
		readsParcels(t, "["+joined(n, good)+"]", slices.Repeat([]impl.Parcel{parcel(7, 5, "{}")}, n)...)
		for _, item := range items {
			refusesParcels(t, "["+joined(n, item)+"]", impl.ErrForm)
		}
	}
	refusesParcels(t, "["+joined(13, good)+"]", impl.ErrMany)
	refusesParcels(t, "["+joined(13, "1")+"]", impl.ErrMany)
}

// refusesItem checks an item alone and in each place of a list.
func refusesItem(t *testing.T, item string) {
	t.Helper()
	good := []string{`{"age":5,"body":{},"id":3}`, `{"body":{"a":1},"id":17,"age":0}`}
	for n := range impl.MaxBatch {
		for i := range n + 1 {
			refusesParcels(t, "["+strings.Join(slices.Insert(slices.Clone(good[:n]), i, item), ",")+"]", impl.ErrForm)
		}
	}
	refusesParcels(t, "["+joined(3, item)+"]", impl.ErrForm)
}

// field is a member of an item as it is written.
type field struct{ name, value string }

func itemText(members ...field) string {
	var parts []string
	for _, m := range members {
		parts = append(parts, `"`+m.name+`":`+m.value)
	}
	return "{" + strings.Join(parts, ",") + "}"
}

// goodMembers are those of an item that is read.
func goodMembers() []field { return []field{{"age", "5"}, {"body", "{}"}, {"id", "7"}} }

func TestItemsThatAreNoObjects(t *testing.T) {
	for _, item := range []string{
		"null", "true", "false", "0", "7", `""`, `"id"`, `"{\"age\":5,\"body\":{},\"id\":7}"`, "[]", "[[]]", "[5,{},7]", "[1,2,3]", `["age","body","id"]`, `[{"age":5,"body":{},"id":7}]`,
	} {
		refusesItem(t, item)
	}
}

// TestMembersOfItems: an item has these three members and no others.
func TestMembersOfItems(t *testing.T) {
	readsParcels(t, "["+itemText(goodMembers()...)+"]", parcel(7, 5, "{}"))
	refusesItem(t, "{}")
	others := []string{"", "Age", "AGE", "ages", "ag", "age ", " age", "Body", "body_", "bod", "Id", "ID", "ids", "i", "id\\u0000", "born", "x", "tries"}
	for i := range 3 {
		alone := goodMembers()[i]
		refusesItem(t, itemText(alone))
		missing := slices.Delete(goodMembers(), i, i+1)
		for _, order := range permutations(2) {
			refusesItem(t, itemText(missing[order[0]], missing[order[1]]))
		}
		for _, name := range others {
			renamed := goodMembers()
			renamed[i].name = name
			refusesItem(t, itemText(renamed...))
		}
	}
	for _, name := range others {
		for _, value := range []string{"5", "7", "{}", "null", "[]"} {
			for i := range 4 {
				refusesItem(t, itemText(slices.Insert(goodMembers(), i, field{name, value})...))
			}
		}
	}
	refusesItem(t, itemText(append(goodMembers(), field{"a", "1"}, field{"b", "2"})...))
	nine := goodMembers()
	for i := range 9 {
		nine = append(nine, field{fmt.Sprint(i), "1"})
	}
	refusesItem(t, itemText(nine...))
}

// TestKindsOfMembers gives each member a value of each other kind.
func TestKindsOfMembers(t *testing.T) {
	values := map[string][]string{
		"age":  {"null", "true", "false", `""`, `"5"`, "[]", "[5]", "{}", `{"a":5}`},
		"body": {"null", "true", "false", "0", "5", `""`, `"{}"`, "[]", "[{}]", "[1,2,3]"},
		"id":   {"null", "true", "false", `""`, `"7"`, "[]", "[7]", "{}", `{"id":7}`},
	}
	for _, order := range permutations(3) {
		for i, m := range goodMembers() {
			for _, value := range values[m.name] {
				changed := goodMembers()
				changed[i].value = value
				refusesItem(t, itemText(changed[order[0]], changed[order[1]], changed[order[2]]))
			}
		}
	}
}

// TestLimitsOfMembers gives the numbers values at their limits.
func TestLimitsOfMembers(t *testing.T) {
	for _, order := range permutations(3) {
		item := func(age, id int) string {
			m := goodMembers()
			m[0].value, m[2].value = fmt.Sprint(age), fmt.Sprint(id)
			return itemText(m[order[0]], m[order[1]], m[order[2]])
		}
		for _, v := range [][2]int{{0, 1}, {0, 1000000}, {1000000, 1}, {1000000, 1000000}, {1, 2}, {999999, 999999}} {
			readsParcels(t, "["+item(v[0], v[1])+"]", parcel(v[1], v[0], "{}"))
		}
		for _, v := range [][2]int{{-1, 7}, {-5, 7}, {1000001, 7}, {1000005, 7}, {999999999, 7}, {-999999999, 7}, {5, 0}, {5, -1}, {5, -7}, {5, 1000001}, {5, 1000007}, {5, 999999999}, {5, -999999999}, {-1, 0}, {1000001, 1000001}} {
			refusesItem(t, item(v[0], v[1]))
		}
	}
}

// TestIdsOfWires: the Ids of the parcels are those of the wire, in its order.
func TestIdsOfWires(t *testing.T) {
	for n := range impl.MaxBatch + 1 {
		want := parcels(n)
		body, ids := sentText(want...), idsOf(want)
		takesParcels(t, impl.Wire{Ids: ids, Body: body}, want...)
		wrong := func(ids []int) { refusesWire(t, impl.Wire{Ids: ids, Body: body}, impl.ErrOrder) }
		for i := range n {
			wrong(slices.Delete(slices.Clone(ids), i, i+1))
			for _, id := range []int{math.MinInt, -ids[i], -1, 0, 1, ids[i] - 1, ids[i] + 1, ids[i] + 1<<32, 1000000, math.MaxInt} {
				changed := slices.Clone(ids)
				changed[i] = id
				wrong(changed)
			}
			for j := range i {
				swapped := slices.Clone(ids)
				swapped[i], swapped[j] = swapped[j], swapped[i]
				wrong(swapped)
				same := slices.Clone(ids)
				same[i] = same[j]
				wrong(same)
			}
		}
		for i := range n + 1 {
			for _, id := range []int{math.MinInt, -1, 0, 1, 3, 10, 17, 18, math.MaxInt} {
				wrong(slices.Insert(slices.Clone(ids), i, id))
			}
		}
		for _, k := range []int{100, 4095, 4096} {
			wrong(append(slices.Clone(ids), make([]int, k-n)...))
			wrong(slices.Repeat([]int{3}, k))
		}
	}
	if list, code := impl.ParcelsOf(impl.Wire{Ids: []int{}, Body: "[]"}); len(list) != 0 || code != impl.OK {
		t.Errorf("ParcelsOf without Ids = %v, %d", list, code)
	}
	// The Ids need not be increasing, nor different.
	for _, ids := range [][]int{{7, 7}, {9, 8}, {9, 9, 9}, {2, 1, 2}, {1000000, 1}} {
		var want []impl.Parcel
		for _, id := range ids {
			want = append(want, parcel(id, 5, "{}"))
		}
		takesParcels(t, impl.Wire{Ids: ids, Body: sentText(want...)}, want...)
	}
}

// TestErrorsOfWires: a wire that is too large is refused first, and its Ids are
// compared last.
func TestErrorsOfWires(t *testing.T) {
	texts := []string{"[]", "x", "{}", "[1]", "[1,1,1,1]", sentText(parcels(3)...)}
	for _, v := range jsonErrors {
		texts = append(texts, v.text)
	}
	for _, text := range texts {
		for _, n := range []int{4097, 4098, 1 << 16} {
			refusesWire(t, impl.Wire{Ids: make([]int, n), Body: text}, impl.ErrBad)
		}
		long := text + strings.Repeat(" ", impl.MaxText+1-len(text))
		for _, ids := range [][]int{nil, {3, 10, 17}, make([]int, 4096), make([]int, 4097)} {
			refusesWire(t, impl.Wire{Ids: ids, Body: long}, impl.ErrBad)
		}
		_, code := impl.ReadParcels(text)
		if code == impl.OK {
			code = impl.ErrOrder
		}
		refusesWire(t, impl.Wire{Ids: make([]int, 4096), Body: text}, code)
		refusesWire(t, impl.Wire{Ids: make([]int, 4096), Body: long[:impl.MaxText]}, code)
	}
}

// otherFields are changes of what ParcelsOf ignores.
var otherFields = []func(*impl.Wire){
	func(w *impl.Wire) {},
	func(w *impl.Wire) { w.At = 500 },
	func(w *impl.Wire) { w.At = -1 },
	func(w *impl.Wire) { w.At = math.MaxInt },
	func(w *impl.Wire) { w.Status = 200 },
	func(w *impl.Wire) { w.Status = 410 },
	func(w *impl.Wire) { w.Status = 99 },
	func(w *impl.Wire) { w.Status = math.MinInt },
	func(w *impl.Wire) { w.Group = "csp" },
	func(w *impl.Wire) { w.Group = "not a name" },
	func(w *impl.Wire) { w.Group = strings.Repeat("\xff", 1<<20) },
	func(w *impl.Wire) { w.Url = "https://a.example/" },
	func(w *impl.Wire) { w.Url = strings.Repeat("\xff", 1<<20) },
	func(w *impl.Wire) { w.Lost = true },
	func(w *impl.Wire) {
		*w = impl.Wire{At: -7, Status: 1000, Group: "-", Url: "-", Ids: w.Ids, Body: w.Body, Lost: true}
	},
}

func TestOtherFieldsOfWires(t *testing.T) {
	for _, change := range otherFields {
		for n := range impl.MaxBatch + 1 {
			w := impl.Wire{Ids: idsOf(parcels(n)), Body: sentText(parcels(n)...)}
			change(&w)
			takesParcels(t, w, parcels(n)...)
			w.Ids = append(w.Ids, 1)
			refusesWire(t, w, impl.ErrOrder)
			w.Body = "[1]"
			refusesWire(t, w, impl.ErrForm)
			w.Body = strings.Repeat(" ", 65537)
			refusesWire(t, w, impl.ErrBad)
		}
	}
}

// withReports returns a pipeline with n reports in its queue, each followed by
// three ticks, and their bodies.
func withReports(t *testing.T, n int) (impl.Pipe, []string) {
	t.Helper()
	p := pipe(toCsp, "csp")
	var told []string
	for line := range n {
		v := like(func(v *impl.Violation) { v.Line = line })
		p = done(t, p, violationEvent(v), tickEvent(3))
		body, _ := impl.BodyText(v)
		told = append(told, body)
	}
	return p, told
}

// TestParcelsOfEvents: a report is in a wire as often as it was sent, each time
// with its age.
func TestParcelsOfEvents(t *testing.T) {
	p, told := withReports(t, 4)
	first := []impl.Parcel{parcel(5, 12, told[0]), parcel(6, 9, told[1]), parcel(7, 6, told[2])}
	p, _, _ = impl.DoEvent(p, sendEvent("csp", 0, 500))
	takesParcels(t, p.Wires[0], first...)
	p = done(t, p, tickEvent(60))
	for i := range first {
		first[i].Age += 60
	}
	p, _, _ = impl.DoEvent(p, lost(sendEvent("csp", 0, 200)))
	takesParcels(t, p.Wires[1], first...)
	p = done(t, p, tickEvent(20))
	for i := range first {
		first[i].Age += 20
	}
	p = done(t, p, sendEvent("csp", 0, 200))
	takesParcels(t, p.Wires[2], first...)
	p = done(t, p, sendEvent("csp", 0, 204))
	takesParcels(t, p.Wires[3], parcel(8, 83, told[3]))
	for i, w := range p.Wires {
		list, _ := impl.ParcelsOf(w)
		if s, code := impl.ParcelsText(list); s != w.Body || code != impl.OK {
			t.Errorf("wire %d: ParcelsText = %.300q, %d, not %.300q", i, s, code, w.Body)
		}
	}
}

// TestQueuesWithOtherBodies: what is sent from a queue with bodies that are no
// texts of objects is not recovered.
func TestQueuesWithOtherBodies(t *testing.T) {
	for _, v := range []struct {
		body string
		code int
	}{
		{"{}", impl.OK}, {`{"a":{"b":1}}`, impl.OK}, {bulky(8000), impl.OK},
		{"x", impl.ErrForm}, {"1", impl.ErrForm}, {"[]", impl.ErrForm}, {"null", impl.ErrForm}, {`{"a":{"b":{}}}`, impl.ErrDeep}, {`{},"id":7`, impl.ErrAgain}, {`{},"x":7`, impl.ErrForm}, {`{"a":1000000000}`, impl.ErrRange}, {`{"a":1,"a":1}`, impl.ErrAgain},
		{`{},"id":7},{"age":5,"body":{}`, impl.ErrOrder}, {`{},"id":7},{"age":5,"body":{},"id":7},{"age":5,"body":{},"id":7},{"age":5,"body":{}`, impl.ErrMany},
	} {
		p := pipe(toCsp, "csp")
		p.Now, p.Next = 9, 8
		p.Channels[0].Queue = queue(nil, report(7, 4, 0, v.body))
		p = done(t, p, sendEvent("csp", 0, 200))
		if v.code == impl.OK {
			takesParcels(t, p.Wires[0], parcel(7, 5, v.body))
		} else {
			refusesWire(t, p.Wires[0], v.code)
		}
	}
}
