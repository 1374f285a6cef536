package tests

import (
	"math/rand"
	"regexp"
	"slices"
	"strconv"
	"strings"
	"testing"
	"unsafe"

	"loop.example/g00207/impl"
)

var hopNames = []string{"connection", "keep-alive", "te", "trailer", "transfer-encoding", "upgrade", "proxy-connection"}

// fieldsOf takes names and values in turn.
func fieldsOf(texts ...string) []impl.Field {
	list := []impl.Field{}
	for i := 0; i+1 < len(texts); i += 2 {
		list = append(list, impl.Field{Name: texts[i], Value: texts[i+1]})
	}
	return list
}

// manyFields have names that are all unlike each other.
func manyFields(count int) []impl.Field {
	list := []impl.Field{}
	for i := range count {
		list = append(list, impl.Field{Name: "n" + strconv.Itoa(i), Value: "v" + strconv.Itoa(i)})
	}
	return list
}

func inCapitals(s string) string {
	return strings.ToUpper(s)
}

// inBoth writes each second letter as a capital.
func inBoth(s string) string {
	text := []byte(s)
	for at := range text {
		if at%2 == 1 && 'a' <= text[at] && text[at] <= 'z' {
			text[at] -= 32
		}
	}
	return string(text)
}

// wrongNames are no tokens.
func wrongNames() []string {
	names := []string{"", " ", "a ", " a", "a b", "a\t", "a:", ":", "a,b", "a;", "a=", "\"a\"", "a\"", "a/b", "(a)", "[a]", "{a}", "a@", "a?", "a\\", "<a>", "a\r", "a\n", "a\r\n", strings.Repeat("a", 65), strings.Repeat("a", 100000)}
	return append(names, oddTexts...)
}

// wrongValues are not visible, or not Trimmed.
func wrongValues() []string {
	values := []string{" ", "\t", "  ", " a", "a ", "\ta", "a\t", " a ", "a\t ", "a\r", "\ra", "a\n", "\na", "a\r\n", "a\r\nb: c", "a\x00b", "a\x7f", "a\x1f", strings.Repeat("a", 401), strings.Repeat("a", 100000), " " + strings.Repeat("a", 399), strings.Repeat("a", 399) + " "}
	return append(values, oddTexts...)
}

// wrongLists are not FieldsOk, each by one thing: at its first, middle or last place.
func wrongLists() [][]impl.Field {
	lists := [][]impl.Field{manyFields(31), manyFields(32), manyFields(1000)}
	same := manyFields(31)
	for i := range same {
		same[i] = impl.Field{Name: "a", Value: ""}
	}
	lists = append(lists, same)
	var wrong []impl.Field
	for _, name := range wrongNames() {
		wrong = append(wrong, impl.Field{Name: name, Value: "v"})
	}
	for _, value := range wrongValues() {
		wrong = append(wrong, impl.Field{Name: "a", Value: value})
	}
	for _, field := range wrong {
		lists = append(lists, []impl.Field{field})
		for at := range 3 {
			list := fieldsOf("a", "1", "connection", "x-b", "X-B", "2")
			list[at] = field
			lists = append(lists, list)
		}
		full := manyFields(30)
		full[29] = field
		lists = append(lists, full)
	}
	return lists
}

// mixedFields are lists that are FieldsOk, with few names in many letters, hop names among them; the same in each run.
func mixedFields(count int) [][]impl.Field {
	source := rand.New(rand.NewSource(4))
	names := append([]string{"a", "b", "x-b", "x-c", "host", "~`!"}, hopNames...)
	values := []string{"", "", "1", "x-b", "X-B", "x-c, a", "A,b,,", "\"a\"", "\"x-b, a\", b", "\"", "\\\"a\"", "close , X-C", "a b", "a\tb", ":", "a:b", "te", "host", strings.Repeat("v", 400), strings.Repeat("a,", 100)}
	lists := make([][]impl.Field, count)
	for i := range lists {
		list := []impl.Field{}
		for range source.Intn(impl.MaxFields + 1) {
			name := names[source.Intn(len(names))]
			switch source.Intn(3) {
			case 1:
				name = inCapitals(name)
			case 2:
				name = inBoth(name)
			}
			list = append(list, impl.Field{Name: name, Value: values[source.Intn(len(values))]})
		}
		lists[i] = list
	}
	return lists
}

func TestMaxFields(t *testing.T) {
	if impl.MaxFields != 30 {
		t.Fatal(impl.MaxFields)
	}
}

func TestFieldsOk(t *testing.T) {
	right := [][]impl.Field{
		nil, {}, fieldsOf("a", "1"), fieldsOf("a", ""), fieldsOf("a", "b c\td"), fieldsOf("a", "1", "a", "1", "A", "2"), fieldsOf("a", ":", "b", ",\"\\"),
		manyFields(2), manyFields(29), manyFields(30),
		fieldsOf(strings.Repeat("a", 64), "1"), fieldsOf("a", strings.Repeat("v", 400)), fieldsOf("!#$%&'*+-.^_|~`", "!\"#$%&'()*+,-./:;<=>?@[\\]^_`{|}~"),
	}
	for _, list := range append(right, mixedFields(200)...) {
		if !impl.FieldsOk(list) {
			t.Errorf("FieldsOk(%.60q) is false", list)
		}
	}
	for _, list := range wrongLists() {
		if impl.FieldsOk(list) {
			t.Errorf("FieldsOk(%.60q)", list)
		}
	}
}

func TestFieldsOkOfEachByte(t *testing.T) {
	const token = "abcdefghijklmnopqrstuvwxyzABCDEFGHIJKLMNOPQRSTUVWXYZ0123456789!#$%&'*+-.^_|~\x60"
	for b := range 256 {
		s := string([]byte{byte(b)})
		if want := strings.IndexByte(token, byte(b)) >= 0; impl.FieldsOk(fieldsOf("a"+s+"a", "v")) != want {
			t.Errorf("FieldsOk with a Name with %q is not %v", s, want)
		}
		if want := b == 9 || b >= 32 && b <= 126; impl.FieldsOk(fieldsOf("a", "v"+s+"v")) != want {
			t.Errorf("FieldsOk with a Value with %q inside is not %v", s, want)
		}
		for _, value := range []string{s, "v" + s, s + "v"} {
			if want := b >= 33 && b <= 126; impl.FieldsOk(fieldsOf("a", value)) != want {
				t.Errorf("FieldsOk with the Value %q is not %v", value, want)
			}
		}
	}
}

func TestGet(t *testing.T) {
	list := fieldsOf("A", "1", "b", "2", "a", "3", "C", "", "x-Y", "4, 5", "c", "", "A", "6 7", "d", "", "e", "", "E", "8", "a-", "9")
	for name, want := range map[string]string{
		"a": "1, 3, 6 7", "A": "1, 3, 6 7", "b": "2", "B": "2", "c": ", ", "C": ", ", "X-y": "4, 5", "x-y": "4, 5", "d": "", "D": "", "e": ", 8", "A-": "9",
	} {
		if got, is := impl.Get(list, name); !is || got != want {
			t.Errorf("Get of %q: %q, %v, not %q", name, got, is, want)
		}
	}
	for _, name := range append(wrongNames(), "f", "aa", "x", "x-", "y", "1", "-", "a, b") {
		if got, is := impl.Get(list, name); is || got != "" {
			t.Errorf("Get of %q: %q, %v", name, got, is)
		}
	}
	for _, none := range [][]impl.Field{nil, {}} {
		if got, is := impl.Get(none, "a"); is || got != "" {
			t.Errorf("Get of no Field: %q, %v", got, is)
		}
	}
}

func TestGetAtTheLimits(t *testing.T) {
	full := manyFields(30)
	for _, field := range full {
		if got, is := impl.Get(full, inCapitals(field.Name)); !is || got != field.Value {
			t.Errorf("Get of %q: %q, %v", field.Name, got, is)
		}
	}
	// What is told of one name may be longer than a Value.
	long := strings.Repeat("v", 400)
	for i := range full {
		full[i] = impl.Field{Name: "a", Value: long}
	}
	if got, is := impl.Get(full, "a"); !is || got != strings.Repeat(long+", ", 29)+long {
		t.Errorf("Get of 30 long Values: %d bytes, %v", len(got), is)
	}
	for _, list := range wrongLists() {
		for _, name := range []string{"a", "connection", "X-B", "n0", "n29", "", " "} {
			if got, is := impl.Get(list, name); is || got != "" {
				t.Fatalf("Get(%.60q, %q): %q, %v", list, name, got, is)
			}
		}
	}
}

func TestWithout(t *testing.T) {
	list := fieldsOf("A", "1", "b", "2", "a", "3", "C", "", "x-Y", "4", "A", "5")
	for name, want := range map[string][]impl.Field{
		"a":                     fieldsOf("b", "2", "C", "", "x-Y", "4"),
		"A":                     fieldsOf("b", "2", "C", "", "x-Y", "4"),
		"B":                     fieldsOf("A", "1", "a", "3", "C", "", "x-Y", "4", "A", "5"),
		"c":                     fieldsOf("A", "1", "b", "2", "a", "3", "x-Y", "4", "A", "5"),
		"X-y":                   fieldsOf("A", "1", "b", "2", "a", "3", "C", "", "A", "5"),
		"d":                     list,
		"x":                     list,
		"aa":                    list,
		strings.Repeat("a", 64): list,
	} {
		if got := impl.Without(list, name); !slices.Equal(got, want) {
			t.Errorf("Without %q: %q, not %q", name, got, want)
		}
	}
	for _, name := range wrongNames() {
		if got := impl.Without(list, name); len(got) != 0 {
			t.Errorf("Without %q: %q", name, got)
		}
	}
}

func TestWithoutAtTheLimits(t *testing.T) {
	for _, none := range [][]impl.Field{nil, {}, fieldsOf("a", "1"), fieldsOf("A", "1", "a", "2")} {
		if got := impl.Without(none, "a"); len(got) != 0 {
			t.Errorf("Without(%q, a): %q", none, got)
		}
	}
	if got := impl.Without(fieldsOf("b", "1"), "a"); !slices.Equal(got, fieldsOf("b", "1")) {
		t.Errorf("Without of one: %q", got)
	}
	full := manyFields(30)
	if got := impl.Without(full, "m"); !slices.Equal(got, full) {
		t.Errorf("Without of 30: %q", got)
	}
	for i, field := range full {
		want := slices.Delete(slices.Clone(full), i, i+1)
		if got := impl.Without(full, inCapitals(field.Name)); !slices.Equal(got, want) {
			t.Errorf("Without %q: %q", field.Name, got)
		}
	}
	for _, list := range wrongLists() {
		for _, name := range []string{"a", "z", "n0", "", " "} {
			if got := impl.Without(list, name); len(got) != 0 {
				t.Fatalf("Without(%.60q, %q): %q", list, name, got)
			}
		}
	}
}

func TestWith(t *testing.T) {
	list := fieldsOf("A", "1", "b", "2", "a", "3", "C", "")
	for field, want := range map[impl.Field][]impl.Field{
		{Name: "a", Value: "9"}:   fieldsOf("b", "2", "C", "", "a", "9"),
		{Name: "A", Value: "1"}:   fieldsOf("b", "2", "C", "", "A", "1"),
		{Name: "B", Value: "x y"}: fieldsOf("A", "1", "a", "3", "C", "", "B", "x y"),
		{Name: "c", Value: ""}:    fieldsOf("A", "1", "b", "2", "a", "3", "c", ""),
		{Name: "D", Value: "4,5"}: fieldsOf("A", "1", "b", "2", "a", "3", "C", "", "D", "4,5"),
		{Name: "d", Value: ""}:    fieldsOf("A", "1", "b", "2", "a", "3", "C", "", "d", ""),
		{Name: strings.Repeat("N", 64), Value: strings.Repeat("v", 400)}: fieldsOf("A", "1", "b", "2", "a", "3", "C", "", strings.Repeat("N", 64), strings.Repeat("v", 400)),
	} {
		if got := impl.With(list, field.Name, field.Value); !slices.Equal(got, want) {
			t.Errorf("With %q: %q, not %q", field, got, want)
		}
	}
	for _, none := range [][]impl.Field{nil, {}, fieldsOf("a", "1"), fieldsOf("A", "1", "a", "2")} {
		if got := impl.With(none, "a", "3"); !slices.Equal(got, fieldsOf("a", "3")) {
			t.Errorf("With(%q, a, 3): %q", none, got)
		}
	}
	for _, name := range wrongNames() {
		if got := impl.With(list, name, "v"); len(got) != 0 {
			t.Errorf("With the name %.20q: %q", name, got)
		}
	}
	for _, value := range wrongValues() {
		for _, name := range []string{"a", "z"} {
			if got := impl.With(list, name, value); len(got) != 0 {
				t.Errorf("With %q and the value %.20q: %q", name, value, got)
			}
		}
	}
}

func TestWithAtTheLimits(t *testing.T) {
	full := manyFields(30)
	if got := impl.With(full, "z", "1"); len(got) != 0 {
		t.Errorf("With one more than 30: %q", got)
	}
	if got := impl.With(full[:29], "z", "1"); !slices.Equal(got, append(manyFields(29), impl.Field{Name: "z", Value: "1"})) {
		t.Errorf("With the 30th: %q", got)
	}
	for i, field := range full {
		want := append(slices.Delete(slices.Clone(full), i, i+1), impl.Field{Name: inCapitals(field.Name), Value: "1"})
		if got := impl.With(full, inCapitals(field.Name), "1"); !slices.Equal(got, want) {
			t.Errorf("With %q once more: %q", field.Name, got)
		}
	}
	same := slices.Repeat(fieldsOf("a", "1"), 30)
	if got := impl.With(same, "A", "2"); !slices.Equal(got, fieldsOf("A", "2")) {
		t.Errorf("With the only name of 30: %q", got)
	}
	if got := impl.With(same, "b", "2"); len(got) != 0 {
		t.Errorf("With another name than that of 30: %q", got)
	}
	for _, list := range wrongLists() {
		for _, name := range []string{"a", "z", "n0", "n30", "", " "} {
			if got := impl.With(list, name, "v"); len(got) != 0 {
				t.Fatalf("With(%.60q, %q): %q", list, name, got)
			}
		}
	}
}

func TestHoplessOfEachName(t *testing.T) {
	for _, name := range hopNames {
		for _, way := range []string{name, inCapitals(name), inBoth(name)} {
			list := fieldsOf("a", "1", way, "x", "b", "2", way, "", "c", way)
			if got := impl.Hopless(list); !slices.Equal(got, fieldsOf("a", "1", "b", "2", "c", way)) {
				t.Errorf("Hopless with %q: %q", way, got)
			}
			if got := impl.Hopless(fieldsOf(way, "")); len(got) != 0 {
				t.Errorf("Hopless of %q alone: %q", way, got)
			}
			near := fieldsOf(way+"s", "1", "x-"+way, "2", way[1:], "3")
			if got := impl.Hopless(near); !slices.Equal(got, near) {
				t.Errorf("Hopless of names near %q: %q", way, got)
			}
		}
	}
}

func TestHoplessByConnection(t *testing.T) {
	rest := fieldsOf("A", "1", "x-b", "2", "X-C", "3", "a", "4", "d", "connection")
	only := func(names string) []impl.Field {
		kept := []impl.Field{}
		for _, field := range rest {
			if strings.Contains(" "+names+" ", " "+field.Name+" ") {
				kept = append(kept, field)
			}
		}
		return kept
	}
	for in, want := range map[string]string{
		"":                     "A x-b X-C a d",
		"close":                "A x-b X-C a d",
		"connection":           "A x-b X-C a d",
		",,":                   "A x-b X-C a d",
		"a":                    "x-b X-C d",
		"A":                    "x-b X-C d",
		"x-c":                  "A x-b a d",
		"X-B,x-C":              "A a d",
		"close, X-B , keep":    "A X-C a d",
		"d,d,D":                "A x-b X-C a",
		"a,x-b,x-c,d":          "",
		"a x-b":                "A x-b X-C a d",
		"a;x-b":                "A x-b X-C a d",
		"\"a\"":                "A x-b X-C a d",
		"\"a\", x-b":           "A X-C a d",
		"\"a, x-b\", d":        "A x-b X-C a",
		"x-b, \"a, d":          "A X-C a d",
		"\"\\\", a\", x-b":     "A X-C a d",
		"\\\"a, x-b\\\", x-c":  "A x-b X-C a d",
		"\"a\"a, x-c":          "A x-b a d",
		"\t,x-b\t,\t x-c \t,a": "d",
	} {
		value := impl.Trimmed(in)
		for _, name := range []string{"connection", "Connection", "CONNECTION"} {
			list := slices.Insert(slices.Clone(rest), 2, impl.Field{Name: name, Value: value})
			if got := impl.Hopless(list); !slices.Equal(got, only(want)) {
				t.Errorf("Hopless with %s: %s: %q, not %s", name, value, got, want)
			}
		}
	}
	// Another name's Value tells nothing, not even that of another one that goes.
	for _, name := range []string{"proxy-connection", "keep-alive", "te", "connections"} {
		list := append(slices.Clone(rest), impl.Field{Name: name, Value: "a, d"})
		got := slices.DeleteFunc(impl.Hopless(list), func(field impl.Field) bool { return field.Name == "connections" })
		if !slices.Equal(got, rest) {
			t.Errorf("Hopless with %s: %q", name, got)
		}
	}
}

func TestHoplessByConnectionsInSeveralFields(t *testing.T) {
	for _, lists := range [][2][]impl.Field{
		{fieldsOf("connection", "a", "a", "1", "b", "2", "Connection", "b", "c", "3"), fieldsOf("c", "3")},
		{fieldsOf("a", "1", "b", "2", "CONNECTION", "", "connection", "B", "c", "3"), fieldsOf("a", "1", "c", "3")},
		{fieldsOf("A", "1", "connection", "x", "C", "3", "connection", "a,c", "b", "2", "connection", ""), fieldsOf("b", "2")},
		// A quote that one of them opens is closed by the next one only.
		{fieldsOf("connection", "\"a", "a", "1", "connection", "b\"", "b", "2", "connection", "c", "c", "3"), fieldsOf("a", "1", "b", "2")},
		{fieldsOf("connection", "a, \"", "a", "1", "connection", "b", "b", "2"), fieldsOf("b", "2")},
	} {
		if got := impl.Hopless(lists[0]); !slices.Equal(got, lists[1]) {
			t.Errorf("Hopless(%q): %q, not %q", lists[0], got, lists[1])
		}
	}
	// What Get tells is no visible text any more when it has more than MaxValue bytes, and has no Items then.
	for size, want := range map[int][]impl.Field{395: {}, 396: {}, 397: {}, 398: fieldsOf("a", "1"), 400: fieldsOf("a", "1")} {
		list := fieldsOf("connection", strings.Repeat("v", size), "a", "1", "connection", "a")
		if told, _ := impl.Get(list, "connection"); len(told) != size+3 {
			t.Fatal(len(told))
		}
		if got := impl.Hopless(list); !slices.Equal(got, want) {
			t.Errorf("Hopless with connections of %d bytes: %q", size+3, got)
		}
	}
}

func TestHoplessAtTheLimits(t *testing.T) {
	for _, list := range [][]impl.Field{nil, {}, fieldsOf("a", "1"), fieldsOf("a", "1", "A", "2"), manyFields(29), manyFields(30)} {
		if got := impl.Hopless(list); !slices.Equal(got, list) {
			t.Errorf("Hopless(%q): %q", list, got)
		}
	}
	full := manyFields(30)
	full[29] = impl.Field{Name: "connection", Value: "n0, N5, n28, n29, n30"}
	want := slices.Concat(full[1:5], full[6:28])
	if got := impl.Hopless(full); !slices.Equal(got, want) {
		t.Errorf("Hopless of 30: %q", got)
	}
	for _, list := range wrongLists() {
		if got := impl.Hopless(list); len(got) != 0 {
			t.Fatalf("Hopless(%.60q): %q", list, got)
		}
	}
}

// plainGet and plainWithout tell Get and Without of Fields once more, by the library's own comparison: all names are ASCII.
func plainGet(list []impl.Field, name string) (string, bool) {
	var values []string
	for _, field := range list {
		if strings.EqualFold(field.Name, name) {
			values = append(values, field.Value)
		}
	}
	return strings.Join(values, ", "), len(values) > 0
}

func plainWithout(list []impl.Field, names ...string) []impl.Field {
	return slices.DeleteFunc(slices.Clone(list), func(field impl.Field) bool {
		return slices.ContainsFunc(names, func(name string) bool { return strings.EqualFold(field.Name, name) })
	})
}

func TestMixedFields(t *testing.T) {
	told := 0
	for _, list := range mixedFields(3000) {
		for _, name := range append([]string{"a", "B", "X-b", "x-C", "~`!", "none"}, hopNames...) {
			want, there := plainGet(list, name)
			if got, is := impl.Get(list, name); is != there || got != want {
				t.Fatalf("Get(%q, %q): %q, %v, not %q", list, name, got, is, want)
			}
			without := plainWithout(list, name)
			if got := impl.Without(list, name); !slices.Equal(got, without) {
				t.Fatalf("Without(%q, %q): %q", list, name, got)
			}
			with := append(without, impl.Field{Name: name, Value: "v"})
			if len(with) > impl.MaxFields {
				with = nil
			}
			if got := impl.With(list, name, "v"); !slices.Equal(got, with) {
				t.Fatalf("With(%q, %q, v): %q", list, name, got)
			}
		}
		connection, _ := plainGet(list, "connection")
		items := []string{}
		if len(connection) <= impl.MaxValue {
			items = plainItems(connection)
		}
		want := plainWithout(list, append(items, hopNames...)...)
		if len(want) < len(plainWithout(list, hopNames...)) {
			told++
		}
		got := impl.Hopless(list)
		if !slices.Equal(got, want) || !slices.Equal(impl.Hopless(got), got) {
			t.Fatalf("Hopless(%q): %q, not %q, and of that %q", list, got, want, impl.Hopless(got))
		}
	}
	if told < 100 {
		t.Errorf("connection told a name that went in %d lists only", told)
	}
}

func TestShowFields(t *testing.T) {
	for _, c := range []struct {
		list []impl.Field
		want string
	}{
		{nil, ""},
		{fieldsOf(), ""},
		{fieldsOf("a", "1"), "a: 1\r\n"},
		{fieldsOf("A", ""), "A: \r\n"},
		{fieldsOf("A-b", "1", "c", "x: \"y\"\tz", "a-B", "2"), "A-b: 1\r\nc: x: \"y\"\tz\r\na-B: 2\r\n"},
		{slices.Repeat(fieldsOf("a", "1"), 30), strings.Repeat("a: 1\r\n", 30)},
		{fieldsOf(strings.Repeat("n", 64), strings.Repeat("v", 400)), strings.Repeat("n", 64) + ": " + strings.Repeat("v", 400) + "\r\n"},
	} {
		if got := impl.ShowFields(c.list); got != c.want {
			t.Errorf("ShowFields(%.60q): %q, not %q", c.list, got, c.want)
		}
	}
	for _, list := range wrongLists() {
		if got := impl.ShowFields(list); got != "" {
			t.Fatalf("ShowFields(%.60q): %q", list, got)
		}
	}
}

func TestReadFieldsOfShowFields(t *testing.T) {
	lists := append(mixedFields(2000), nil, fieldsOf("a", ""), manyFields(1), manyFields(29), manyFields(30))
	behinds := append([]string{"", "a", "\r\n", "\r", "\n", " ", ":", "b: 2\r\n\r\n", "b : 2\r\n\r\n", strings.Repeat("c: 3\r\n", 40), strings.Repeat("x", 100000)}, oddTexts...)
	for i, list := range lists {
		text := impl.ShowFields(list) + "\r\n"
		few := behinds
		if i%50 > 0 {
			few = behinds[:3]
		}
		for _, behind := range few {
			got, took, is := impl.ReadFields(text + behind)
			if !is || took != int64(len(text)) || !slices.Equal(got, list) {
				t.Fatalf("ReadFields of ShowFields(%q) with %.20q behind: %q, %d, %v", list, behind, got, took, is)
			}
		}
		if i%50 > 0 {
			continue
		}
		for end := range len(text) {
			if got, took, is := impl.ReadFields(text[:end]); is || took != 0 || len(got) != 0 {
				t.Fatalf("ReadFields(%.60q), which is cut: %q, %d, %v", text[:end], got, took, is)
			}
		}
	}
}

func TestReadFields(t *testing.T) {
	blanks := strings.Repeat(" \t", 500)
	for _, c := range []struct {
		text string
		want []impl.Field
		took int64
	}{
		{"\r\n", fieldsOf(), 2},
		{"\r\n\r\n", fieldsOf(), 2},
		{"\r\na: 1\r\n\r\n", fieldsOf(), 2},
		{"\r\n\r", fieldsOf(), 2},
		{"a:1\r\n\r\n", fieldsOf("a", "1"), 7},
		{"a: 1\r\n\r\n", fieldsOf("a", "1"), 8},
		{"a:\t 1 \t\r\n\r\n", fieldsOf("a", "1"), 11},
		{"a:\r\n\r\n", fieldsOf("a", ""), 6},
		{"a: \r\n\r\n", fieldsOf("a", ""), 7},
		{"a: \t\r\n\r\n", fieldsOf("a", ""), 8},
		{"a::\r\n\r\n", fieldsOf("a", ":"), 7},
		{"a: b: c :\r\n\r\n", fieldsOf("a", "b: c :"), 13},
		{"A: 1 \t 2\r\nb:\"x, y\"\r\na:3\r\n\r\nrest", fieldsOf("A", "1 \t 2", "b", "\"x, y\"", "a", "3"), 27},
		{"a: 1\r\n\r\n\r\n\r\n", fieldsOf("a", "1"), 8},
		{"a: 1\r\n\r\nno line\r\n", fieldsOf("a", "1"), 8},
		{"a: 1\r\n\r\n\xff\x00\n\r", fieldsOf("a", "1"), 8},
		{"a:" + blanks + "1" + blanks + "\r\n\r\n", fieldsOf("a", "1"), 2007},
		{"a:" + blanks + "\r\n\r\n", fieldsOf("a", ""), 1006},
		{"a:" + blanks + strings.Repeat("v", 400) + "\r\n\r\n", fieldsOf("a", strings.Repeat("v", 400)), 1406},
		{"a:v" + strings.Repeat(" ", 398) + "v\r\n\r\n", fieldsOf("a", "v"+strings.Repeat(" ", 398)+"v"), 406},
		{strings.Repeat("n", 64) + ":1\r\n\r\n", fieldsOf(strings.Repeat("n", 64), "1"), 70},
		{strings.Repeat("a: 1\r\n", 29) + "\r\n", slices.Repeat(fieldsOf("a", "1"), 29), 176},
		{strings.Repeat("a: 1\r\n", 30) + "\r\n", slices.Repeat(fieldsOf("a", "1"), 30), 182},
		{strings.Repeat("a: 1\r\n", 30) + "\r\na: 1\r\n\r\n", slices.Repeat(fieldsOf("a", "1"), 30), 182},
	} {
		got, took, is := impl.ReadFields(c.text)
		if !is || took != c.took || !slices.Equal(got, c.want) {
			t.Errorf("ReadFields(%.60q): %.60q, %d, %v, not %.60q, %d", c.text, got, took, is, c.want, c.took)
		}
	}
}

func TestReadFieldsOfWrongTexts(t *testing.T) {
	texts := []string{
		"", "\r", "\n", "a", "a: 1", "a: 1\r\n", "a: 1\r\n\r", "a: 1\r\n\n", "a: 1\r\nb: 2\r\n", "a: 1\r\n \r\n", "a: 1\r\n\t\r\n", "a: 1\n\n", "a: 1\r\r", "\n\n", "\r\r", "\n\r", "\r\r\n", "\n\r\n", " \r\n", " \r\n\r\n",
		strings.Repeat("a: 1\r\n", 31) + "\r\n", strings.Repeat("a: 1\r\n", 32) + "\r\n", strings.Repeat("a: 1\r\n", 30), strings.Repeat("a: 1\r\n", 31), strings.Repeat("a: 1\r\n", 100000) + "\r\n",
	}
	for _, line := range []string{
		"a", ":", ":1", ": 1", " a: 1", "\ta: 1", " : 1", "a : 1", "a\t: 1", "a :", "a b: 1", "a,b: 1", "\"a\": 1", "a;: 1", "a=1", "a/b: 1", "a\\: 1",
		"a: 1\r", "a: 1\n", "\ra: 1", "\na: 1", "a\r: 1", "a\n: 1", "a:\r1", "a:\n1", "a:1\r2", "a:1\n2", "a:1\n", "a: 1\r ", "a: 1\n ", "a:\r", "a:\n", "a: 1\nb: 2", "a: 1\rb: 2", "a: 1\n\rb: 2", "a: 1\n b", "a:\r\n b", "a: 1\r\n\tb",
		"a: 1\x00", "a: \x7f", "a: \x1f", "a: \x80", "a: \xff", "a: \u00e9", "\u00e9: 1", "\u017f: 1", "a\x00: 1", "a\xff: 1",
		strings.Repeat("n", 65) + ": 1", "a: " + strings.Repeat("v", 401), "a: v" + strings.Repeat(" ", 399) + "v", strings.Repeat("n", 100000) + ": 1", "a: " + strings.Repeat("v", 100000), strings.Repeat(" ", 100000) + "a: 1",
	} {
		texts = append(texts, line+"\r\n\r\n", "b: 2\r\n"+line+"\r\n\r\n", line+"\r\nb: 2\r\n\r\n", "b: 2\r\n"+line+"\r\nb: 2\r\n\r\n", strings.Repeat("b: 2\r\n", 29)+line+"\r\n\r\n")
	}
	for _, text := range texts {
		if got, took, is := impl.ReadFields(text); is || took != 0 || len(got) != 0 {
			t.Errorf("ReadFields(%.60q): %.60q, %d, %v", text, got, took, is)
		}
	}
}

var (
	headForm = regexp.MustCompile("^(?:[!#$%&'*+.^_|~`0-9A-Za-z-]{1,64}:[\\t -~]*\\r\\n)*\\r\\n")
	lineForm = regexp.MustCompile("([^:\\r\\n]+):[ \\t]*([^\\r\\n]*)\\r\\n")
)

// plainReadFields tells ReadFields once more, by expressions.
func plainReadFields(text string) ([]impl.Field, int64, bool) {
	head := headForm.FindString(text)
	var list []impl.Field
	for _, line := range lineForm.FindAllStringSubmatch(head, -1) {
		value := strings.TrimRight(line[2], " \t")
		if len(value) > 400 {
			return nil, 0, false
		}
		list = append(list, impl.Field{Name: line[1], Value: value})
	}
	if head == "" || len(list) > 30 {
		return nil, 0, false
	}
	return list, int64(len(head)), true
}

func TestReadFieldsOfManyTexts(t *testing.T) {
	texts := append(textsOf("a: \r\n", 7), hugeTexts()...)
	source := rand.New(rand.NewSource(5))
	pieces := []string{"a", "B", ":", ": ", " ", "\t", "\r\n", "\r\n", "\r\n\r\n", "a: 1\r\n", "b:\r\n", "\r", "\n", "\"", ",", strings.Repeat("v", 200), strings.Repeat("c: 3\r\n", 15), strings.Repeat("n", 32), "\xff", "\u00e9"}
	for range 60000 {
		text := ""
		for range source.Intn(12) {
			text += pieces[source.Intn(len(pieces)-source.Intn(3)*4)]
		}
		texts = append(texts, text, text+"\r\n\r\n", "a:"+text+"\r\n\r\n")
	}
	read := 0
	for _, text := range append(texts, oddTexts...) {
		want, taken, right := plainReadFields(text)
		got, took, is := impl.ReadFields(text)
		if is != right || took != taken || !slices.Equal(got, want) {
			t.Fatalf("ReadFields(%q): %q, %d, %v, not %q, %d, %v", text, got, took, is, want, taken, right)
		}
		if !is {
			continue
		}
		read++
		shown := impl.ShowFields(got) + "\r\n"
		again, size, is := impl.ReadFields(shown)
		if !impl.FieldsOk(got) || !is || size != int64(len(shown)) || !slices.Equal(again, got) {
			t.Fatalf("ReadFields(%q): %q, which is shown %q", text, got, shown)
		}
	}
	if read < 1000 {
		t.Errorf("%d texts only were read", read)
	}
}

// roomy lays a list into memory of its own, with Fields in the room behind it, and its texts, too.
func roomy(list []impl.Field) []impl.Field {
	all := make([]impl.Field, len(list)+5)
	for i := range all {
		all[i] = impl.Field{Name: "behind", Value: "it"}
	}
	for i, field := range list {
		all[i] = impl.Field{Name: strings.Clone(field.Name), Value: strings.Clone(field.Value)}
	}
	return all[:len(list)]
}

// deepFields are new memory all through, so that what becomes of the list is not seen there.
func deepFields(list []impl.Field) []impl.Field {
	copied := make([]impl.Field, len(list))
	for i, field := range list {
		copied[i] = impl.Field{Name: strings.Clone(field.Name), Value: strings.Clone(field.Value)}
	}
	return copied
}

func listsShare(a, b []impl.Field) bool {
	if cap(a) == 0 || cap(b) == 0 {
		return false
	}
	const size = unsafe.Sizeof(impl.Field{})
	fromA, fromB := uintptr(unsafe.Pointer(unsafe.SliceData(a))), uintptr(unsafe.Pointer(unsafe.SliceData(b)))
	return fromA < fromB+uintptr(cap(b))*size && fromB < fromA+uintptr(cap(a))*size
}

func textsShare(list []impl.Field, texts ...string) bool {
	for _, field := range list {
		for _, text := range texts {
			if sharesMemory(field.Name, text) || sharesMemory(field.Value, text) {
				return true
			}
		}
	}
	return false
}

func textsIn(list []impl.Field) []string {
	var texts []string
	for _, field := range list {
		texts = append(texts, field.Name, field.Value)
	}
	return texts
}

func TestFieldAnswersAreNewMemory(t *testing.T) {
	lists := append(mixedFields(100), fieldsOf("a", "1"), fieldsOf("name", "value"), manyFields(29), manyFields(30))
	for _, given := range append(lists, wrongLists()...) {
		list := roomy(given)
		name, value := strings.Clone("a"), strings.Clone("other")
		before := deepFields(list[:cap(list)])
		texts := append(textsIn(list), name, value)
		answers := [][]impl.Field{impl.Without(list, name), impl.With(list, name, value), impl.Hopless(list), impl.Without(list, "none"), impl.With(list[:0], name, value), impl.With(list, "none", value)}
		for i, answer := range answers {
			if listsShare(answer, list) || textsShare(answer, texts...) {
				t.Fatalf("answer %d of %.60q shares memory with it", i, list)
			}
			for j := range i {
				if listsShare(answer, answers[j]) {
					t.Fatalf("answers %d and %d of %.60q share memory", i, j, list)
				}
			}
		}
		for _, name := range []string{"a", "name", "n0"} {
			told, _ := impl.Get(list, name)
			for _, text := range texts {
				if sharesMemory(told, text) {
					t.Fatalf("Get(%.60q, %q) shares memory with it", list, name)
				}
			}
		}
		impl.FieldsOk(list)
		shown := impl.ShowFields(list)
		if slices.ContainsFunc(texts, func(text string) bool { return sharesMemory(shown, text) }) {
			t.Fatalf("ShowFields(%.60q) shares memory with it", list)
		}
		for _, answer := range answers {
			for i := range answer {
				answer[i] = impl.Field{Name: "written", Value: "into"}
			}
			_ = append(answer, impl.Field{Name: "written", Value: "behind"})
		}
		if !slices.Equal(list[:cap(list)], before) || name != "a" || value != "other" {
			t.Fatalf("%.60q became %.60q", before, list[:cap(list)])
		}
	}
}

func TestReadFieldsAnswersNewMemory(t *testing.T) {
	for _, s := range []string{"a: 1\r\nname:value\r\n\r\nrest", "a:1\r\n\r\n", strings.Repeat("abc: def\r\n", 30) + "\r\n"} {
		text := strings.Clone(s)
		first, _, _ := impl.ReadFields(text)
		second, _, _ := impl.ReadFields(text)
		if len(first) == 0 || textsShare(first, text) || listsShare(first, second) || textsShare(first, textsIn(second)...) && len(first[0].Name) > 1 {
			t.Errorf("ReadFields(%.20q) shares memory", s)
		}
		if cap(first) != len(first) {
			t.Errorf("ReadFields(%.20q) has room behind it: %d of %d", s, len(first), cap(first))
		}
		for i := range first {
			first[i] = impl.Field{}
		}
		if third, _, _ := impl.ReadFields(text); !slices.Equal(third, second) || text != s {
			t.Errorf("ReadFields(%.20q) hangs on what became of an earlier answer", s)
		}
	}
}

// Each function answers, the same twice, whatever it is given.
func TestFieldFunctionsAnswerAtEveryArgument(t *testing.T) {
	texts := append([]string{"", "a", "Connection", " ", "1"}, oddTexts...)
	texts = append(texts, strings.Repeat("a", 100000), strings.Repeat("\r\n", 100000), strings.Repeat(":", 100000), strings.Repeat("\xff", 100000))
	lists := append(wrongLists(), nil, manyFields(30), manyFields(100000), make([]impl.Field, 5), make([]impl.Field, 100))
	for _, list := range lists {
		for _, s := range texts {
			tell := func() ([]impl.Field, string) {
				got, is := impl.Get(list, s)
				if !is && got != "" {
					t.Fatalf("Get(%.40q, %.20q): %.40q beside false", list, s, got)
				}
				all := slices.Concat(impl.Without(list, s), impl.With(list, s, s), impl.With(list, "a", s), impl.Hopless(list))
				return all, got + impl.ShowFields(list) + strconv.FormatBool(is) + strconv.FormatBool(impl.FieldsOk(list))
			}
			fields, text := tell()
			again, too := tell()
			if !slices.Equal(fields, again) || text != too {
				t.Fatalf("two answers at %.40q and %.20q", list, s)
			}
			if !impl.FieldsOk(list) && (len(fields) > 0 || text != "falsefalse") {
				t.Fatalf("%.40q and %.20q: %.40q, %.40q", list, s, fields, text)
			}
		}
	}
}
