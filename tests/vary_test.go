package tests

import (
	"fmt"
	"maps"
	"math/rand"
	"regexp"
	"slices"
	"strings"
	"testing"

	"loop.example/g00207/impl"
)

// keptFor is a right Object that was kept for these asks, with this vary; without one where it is empty.
func keptFor(vary string, asks []impl.Field, got int64) impl.Object {
	o := objectOf(got, got, "etag", "\"e\"")
	o.Fields = asks
	if vary != "" {
		o.Response.Fields = append(o.Response.Fields, impl.Field{Name: "Vary", Value: vary})
	}
	return o
}

var isPlainName = regexp.MustCompile("^[a-zA-Z0-9!#$%&'*+.^_|~`-]{1,64}$")
var isPlainText = regexp.MustCompile("^[\t -~]{0,400}$")

// plainSelecting and its kin tell the functions of the chapter once more.
func plainSelecting(vary string, asks []impl.Field) (string, bool) {
	names := map[string]string{}
	if isPlainText.MatchString(vary) {
		for _, item := range plainItems(vary) {
			text, _ := plainGet(asks, item)
			quoted := ""
			if isPlainText.MatchString(text) {
				quoted = "\"" + strings.NewReplacer("\\", "\\\\", "\"", "\\\"").Replace(text) + "\""
			}
			names[strings.ToLower(item)] = quoted
		}
	}
	told := ""
	for _, name := range slices.Sorted(maps.Keys(names)) {
		if name == "*" || !isPlainName.MatchString(name) {
			return "", false
		}
		told += name + "=" + names[name] + ";"
	}
	if !impl.FieldsOk(asks) {
		return "", false
	}
	return told, true
}

func plainMatchesKept(o impl.Object, key string, asks []impl.Field) bool {
	if !plainObjectOk(o) || o.Key != key {
		return false
	}
	vary, _ := plainGet(o.Response.Fields, "vary")
	kept, is := plainSelecting(vary, o.Fields)
	asked, too := plainSelecting(vary, asks)
	return is && too && kept == asked
}

// plainChosen goes through the moments from the last one down, and at each from the first Object on.
func plainChosen(list []impl.Object, key string, asks []impl.Field) int64 {
	places := map[int64][]int{}
	for i, o := range list {
		if plainMatchesKept(o, key, asks) {
			places[o.Got] = append(places[o.Got], i)
		}
	}
	if len(places) == 0 {
		return -1
	}
	return int64(places[slices.Max(slices.Collect(maps.Keys(places)))][0])
}

func checkSelecting(t *testing.T, vary string, asks []impl.Field, want string) {
	t.Helper()
	if got, is := impl.Selecting(vary, asks); !is || got != want {
		t.Errorf("Selecting(%.80q, %.80q): %.120q, %v, not %.120q", vary, asks, got, is, want)
	}
}

func checkNotSelecting(t *testing.T, vary string, asks []impl.Field) {
	t.Helper()
	if got, is := impl.Selecting(vary, asks); is || got != "" {
		t.Errorf("Selecting(%.80q, %.80q): %.120q, %v", vary, asks, got, is)
	}
}

var variedAsks = fieldsOf("Accept", "text", "b", "2", "host", "h", "ab", "3", "a", "1", "x-y", "", "q", "say \"x\" \\")

// nothingVaried are right, but have no Item.
var nothingVaried = []string{"", " ", "\t", ",", ",,", " , ", ",\t, ,", " \t ", strings.Repeat(",", 400), strings.Repeat(" ", 400)}

func TestSelectingOfNothing(t *testing.T) {
	for _, vary := range nothingVaried {
		for _, asks := range append(someFields(), nil, variedAsks, manyFields(30)) {
			checkSelecting(t, vary, asks, "")
		}
	}
}

func TestSelecting(t *testing.T) {
	for vary, want := range map[string]string{
		"a":                "a=\"1\";",
		"A":                "a=\"1\";",
		"ACCEPT":           "accept=\"text\";",
		"accept":           "accept=\"text\";",
		" a ":              "a=\"1\";",
		"\ta,":             "a=\"1\";",
		",,a,,":            "a=\"1\";",
		"a,b":              "a=\"1\";b=\"2\";",
		"b,a":              "a=\"1\";b=\"2\";",
		"B , A":            "a=\"1\";b=\"2\";",
		"b,a,Accept":       "a=\"1\";accept=\"text\";b=\"2\";",
		"a,a":              "a=\"1\";",
		"a,A":              "a=\"1\";",
		"A,a,A":            "a=\"1\";",
		"b,a,B,A,b":        "a=\"1\";b=\"2\";",
		"ab,a":             "a=\"1\";ab=\"3\";",
		"a,ab":             "a=\"1\";ab=\"3\";",
		"AB,a,abc,A":       "a=\"1\";ab=\"3\";abc=\"\";",
		"none":             "none=\"\";",
		"none,None":        "none=\"\";",
		"x-y":              "x-y=\"\";",
		"q":                "q=\"say \\\"x\\\" \\\\\";",
		"q, x-y,none, a":   "a=\"1\";none=\"\";q=\"say \\\"x\\\" \\\\\";x-y=\"\";",
		"Z, a, Y, b":       "a=\"1\";b=\"2\";y=\"\";z=\"\";",
		"~,_,^,Z,-,1,!,`":  "!=\"\";-=\"\";1=\"\";^=\"\";_=\"\";`=\"\";z=\"\";~=\"\";",
		"a-b, a.b, aB, a!": "a!=\"\";a-b=\"\";a.b=\"\";ab=\"3\";",
		"10, 9, 1":         "1=\"\";10=\"\";9=\"\";",
	} {
		checkSelecting(t, vary, variedAsks, want)
	}
}

// In whatever order and letters the names come, and however often, they tell the same.
func TestSelectingOfNamesInAllOrders(t *testing.T) {
	names := []string{"b", "accept", "ab", "q"}
	const want = "ab=\"3\";accept=\"text\";b=\"2\";q=\"say \\\"x\\\" \\\\\";"
	for first := range 4 {
		for second := range 4 {
			for third := range 4 {
				fourth := 6 - first - second - third
				order := []int{first, second, third, fourth}
				if slices.Equal(slices.Sorted(slices.Values(order)), []int{0, 1, 2, 3}) {
					told := []string{names[first], inCapitals(names[second]), inBoth(names[third]), names[fourth]}
					checkSelecting(t, strings.Join(told, ","), variedAsks, want)
					checkSelecting(t, strings.Join(append(told, inCapitals(told[0]), told[1]), " ,\t"), variedAsks, want)
				}
			}
		}
	}
}

func TestSelectingOfAStar(t *testing.T) {
	for _, vary := range []string{"*", " * ", "*,", ",*", "*,*", "*,a", "a,*", "a,*,b", "A , *", "zz,*,!", "*,none", "a,b,ab,*", "*,\"", "\",\",*", "!,*,~", strings.Repeat("a,", 199) + "*"} {
		checkNotSelecting(t, vary, variedAsks)
		checkNotSelecting(t, vary, nil)
		checkNotSelecting(t, vary, fieldsOf("*", "1"))
	}
	// A token may have one in it.
	for _, name := range []string{"**", "*a", "a*", "a*b", "***"} {
		checkSelecting(t, name, fieldsOf(name, "1", "*", "2"), name+"=\"1\";")
	}
}

// notNames are Items, but no tokens.
func notNames() []string {
	return []string{"a b", "a\tb", "\"a\"", "\"\"", "\"*\"", "* *", "a:", ":", "a;", "a=", "a=b", "a/b", "(a)", "[a]", "{a}", "a@", "a?", "a\\", "<a>", "\"", "\"a", "a\"", "\"a,b\"", "\",\"", strings.Repeat("a", 65), strings.Repeat("a", 400), strings.Repeat("*", 65)}
}

func TestSelectingOfNoToken(t *testing.T) {
	for _, name := range notNames() {
		for _, vary := range []string{name, "a," + name, name + ",a", "a, " + name + " ,b", "none,zz," + name, inCapitals(name), name + "," + name} {
			// Some grow longer than what is visible, and have no Items then.
			if len(vary) <= 400 {
				checkNotSelecting(t, vary, variedAsks)
				checkNotSelecting(t, vary, nil)
			}
		}
	}
	for b := range 256 {
		s := string([]byte{byte(b)})
		vary := "x" + s + "y"
		switch {
		case b != '\t' && (b < 32 || b > 126):
			checkSelecting(t, vary, nil, "")
		case b == ',':
			checkSelecting(t, vary, nil, "x=\"\";y=\"\";")
		case impl.TokenOk(s):
			checkSelecting(t, vary, nil, impl.Lower(vary)+"=\"\";")
		default:
			checkNotSelecting(t, vary, nil)
		}
	}
}

func TestSelectingByLengthOfAName(t *testing.T) {
	for size := 1; size <= 70; size++ {
		name := strings.Repeat("n", size)
		if size <= 64 {
			checkSelecting(t, name, fieldsOf(name, "1"), name+"=\"1\";")
			checkSelecting(t, inCapitals(name)+",a", fieldsOf(inBoth(name), "1"), "a=\"\";"+name+"=\"1\";")
		} else {
			checkNotSelecting(t, name, variedAsks)
			checkNotSelecting(t, "a,"+name, variedAsks)
		}
	}
}

// What is not visible has no Items, so nothing is named.
func TestSelectingOfWhatIsNotVisible(t *testing.T) {
	texts := append([]string{"a\r", "a\nb", "a,\x00", "*\x7f", "*,\x1f", strings.Repeat("a", 401), strings.Repeat("a,", 200) + "a", strings.Repeat("*,", 200) + "*", strings.Repeat(" ", 401), "a" + strings.Repeat(" ", 400)}, oddTexts...)
	for _, vary := range append(texts, hugeTexts()...) {
		checkSelecting(t, vary, variedAsks, "")
		checkSelecting(t, vary, nil, "")
		checkNotSelecting(t, vary, fieldsOf("", "1"))
	}
	checkSelecting(t, strings.Repeat("a,", 200), variedAsks, "a=\"1\";")
	checkSelecting(t, "a"+strings.Repeat(" ", 399), variedAsks, "a=\"1\";")
}

func TestSelectingByAsks(t *testing.T) {
	for _, test := range []struct {
		asks []impl.Field
		want string
	}{
		{nil, ""},
		{fieldsOf("b", "1"), ""},
		{fieldsOf("aa", "1"), ""},
		{fieldsOf("a", ""), ""},
		{fieldsOf("a", "1"), "1"},
		{fieldsOf("A", "1"), "1"},
		{fieldsOf("a", "X"), "X"},
		{fieldsOf("A", "x Y"), "x Y"},
		{fieldsOf("b", "0", "a", "1", "c", "2"), "1"},
		{fieldsOf("a", "1", "a", "2"), "1, 2"},
		{fieldsOf("a", "2", "a", "1"), "2, 1"},
		{fieldsOf("a", "1", "b", "0", "A", "2", "c", "0", "a", "1"), "1, 2, 1"},
		{fieldsOf("a", "", "a", ""), ", "},
		{fieldsOf("a", "", "a", "1"), ", 1"},
		{fieldsOf("a", "1", "A", ""), "1, "},
		{fieldsOf("a", "\""), "\\\""},
		{fieldsOf("a", "\\"), "\\\\"},
		{fieldsOf("a", "\\\""), "\\\\\\\""},
		{fieldsOf("a", "\"x\""), "\\\"x\\\""},
		{fieldsOf("a", "1\";b=\"2"), "1\\\";b=\\\"2"},
		{fieldsOf("a", "x\ty"), "x\ty"},
		{fieldsOf("a", "*"), "*"},
		{fieldsOf("a", "1;b=2"), "1;b=2"},
	} {
		for _, vary := range []string{"a", "A", "a,A", " a ,"} {
			checkSelecting(t, vary, test.asks, "a=\""+test.want+"\";")
		}
	}
}

func TestSelectingByLengthOfAValue(t *testing.T) {
	for _, size := range []int{1, 64, 199, 200, 399, 400} {
		value := strings.Repeat("v", size)
		checkSelecting(t, "a", fieldsOf("a", value), "a=\""+value+"\";")
		checkSelecting(t, "a", fieldsOf("a", strings.Repeat("\"", size)), "a=\""+strings.Repeat("\\\"", size)+"\";")
	}
	// What several Fields tell together may not be visible any more, and is not quoted then.
	value := strings.Repeat("v", 199)
	checkSelecting(t, "a", fieldsOf("a", value, "a", value), "a=\""+value+", "+value+"\";")
	checkSelecting(t, "a", fieldsOf("a", value+"v", "a", value[1:]), "a=\""+value+"v, "+value[1:]+"\";")
	checkSelecting(t, "a", fieldsOf("a", value+"v", "a", value), "a=;")
	checkSelecting(t, "b,a", fieldsOf("a", strings.Repeat("v", 400), "A", ""), "a=;b=\"\";")
	full := manyFields(30)
	for i := range full {
		full[i] = impl.Field{Name: inBoth("name"), Value: strings.Repeat("v", 400)}
	}
	checkSelecting(t, "name", full, "name=;")
}

func TestSelectingOfWrongAsks(t *testing.T) {
	for _, asks := range wrongLists() {
		for _, vary := range []string{"", ",", "a", "b", "none", "*", "a b", "a, b", "\xff", strings.Repeat("a", 401)} {
			checkNotSelecting(t, vary, asks)
		}
	}
	checkSelecting(t, "N29, n0", manyFields(30), "n0=\"v0\";n29=\"v29\";")
}

func checkMatchesKept(t *testing.T, o impl.Object, key string, asks []impl.Field, want bool) {
	t.Helper()
	if impl.Matches(o, key, asks) != want {
		t.Errorf("Matches(%.200q, %.60q, %.80q) is not %v", fmt.Sprint(o), key, asks, want)
	}
	number := int64(-1)
	if want {
		number = 0
	}
	if got := impl.Chosen([]impl.Object{o}, key, asks); got != number {
		t.Errorf("Chosen of the one %.200q, %.60q, %.80q: %d", fmt.Sprint(o), key, asks, got)
	}
}

func TestMatchesByKey(t *testing.T) {
	o := keptFor("a", fieldsOf("a", "1"), noon)
	for _, key := range []string{"h/a", "", "h", "/a", "h/", "h/A", "H/a", "h/a?", "h/aa", "hh/a", "h/b", " h/a", "h/a ", strings.Repeat("h/a", 200)} {
		checkMatchesKept(t, o, key, fieldsOf("a", "1"), key == "h/a")
	}
	for _, key := range append(oddTexts, hugeTexts()...) {
		checkMatchesKept(t, o, key, fieldsOf("a", "1"), false)
		// The Key is that, but it is not ObjectOk.
		wrong := o
		wrong.Key = key
		if !isSolid.MatchString(key) {
			checkMatchesKept(t, wrong, strings.Clone(key), fieldsOf("a", "1"), false)
		}
	}
	for _, key := range []string{"", "!", "~", "H/A?x=1&y", strings.Repeat("k", 500)} {
		o.Key = key
		checkMatchesKept(t, o, strings.Clone(key), fieldsOf("a", "1"), true)
		checkMatchesKept(t, o, key+"k", fieldsOf("a", "1"), false)
		checkMatchesKept(t, o, key, fieldsOf("a", "2"), false)
	}
}

func TestMatchesWithoutAVary(t *testing.T) {
	for _, kept := range [][]impl.Field{nil, fieldsOf("a", "1"), manyFields(30)} {
		o := keptFor("", kept, noon)
		for _, asks := range [][]impl.Field{nil, kept, fieldsOf("a", "2"), fieldsOf("vary", "a"), variedAsks} {
			checkMatchesKept(t, o, "h/a", asks, true)
			checkMatchesKept(t, o, "h/b", asks, false)
			for _, vary := range []string{",", ", ,"} {
				checkMatchesKept(t, keptFor(vary, kept, noon), "h/a", asks, true)
			}
			none := keptFor("", kept, noon)
			none.Response.Fields = fieldsOf("vary", "", "vary", "")
			checkMatchesKept(t, none, "h/a", asks, true)
		}
	}
}

// It is the Object's Response that has the vary, not the Fields it was asked with, nor those of asks.
func TestMatchesByTheVaryOfTheResponse(t *testing.T) {
	o := keptFor("", fieldsOf("vary", "a", "a", "1"), noon)
	checkMatchesKept(t, o, "h/a", fieldsOf("vary", "a", "a", "2"), true)
	o = keptFor("vary", fieldsOf("vary", "a", "a", "1"), noon)
	checkMatchesKept(t, o, "h/a", fieldsOf("vary", "a", "a", "2"), true)
	checkMatchesKept(t, o, "h/a", fieldsOf("vary", "b", "a", "1"), false)
	checkMatchesKept(t, o, "h/a", fieldsOf("a", "1"), false)
	// What the Response tells in other Fields does not matter, by whatever name.
	o = keptFor("a", fieldsOf("a", "1"), noon)
	o.Response.Fields = append(o.Response.Fields, fieldsOf("a", "2", "varies", "b", "var", "*")...)
	checkMatchesKept(t, o, "h/a", fieldsOf("a", "1", "b", "5"), true)
	checkMatchesKept(t, o, "h/a", fieldsOf("a", "2"), false)
}

func TestMatchesBySeveralVarys(t *testing.T) {
	kept := fieldsOf("a", "1", "b", "2", "c", "3")
	for _, names := range [][]string{{"vary", "a", "vary", "b"}, {"Vary", "B", "VARY", "A"}, {"vary", "a,b", "vary", "a"}, {"vary", "", "vary", "b,a"}, {"vary", "a", "x", "c", "vary", "", "vary", "b", "vary", "a"}} {
		o := keptFor("", kept, noon)
		o.Response.Fields = fieldsOf(names...)
		checkMatchesKept(t, o, "h/a", kept, true)
		checkMatchesKept(t, o, "h/a", fieldsOf("b", "2", "c", "9", "a", "1"), true)
		checkMatchesKept(t, o, "h/a", fieldsOf("a", "1", "b", "9", "c", "3"), false)
		checkMatchesKept(t, o, "h/a", fieldsOf("a", "9", "b", "2", "c", "3"), false)
		o.Response.Fields = append(o.Response.Fields, fieldsOf("vary", "*")...)
		checkMatchesKept(t, o, "h/a", kept, false)
	}
	// Two that are open end where they meet: what is between them is one Item, and no token.
	o := keptFor("", kept, noon)
	o.Response.Fields = fieldsOf("vary", "a\"", "vary", "\"")
	checkMatchesKept(t, o, "h/a", kept, false)
}

func TestMatchesByNamedFields(t *testing.T) {
	kept := fieldsOf("Accept", "x", "b", "2", "c", "3", "e", "")
	for _, test := range []struct {
		asks []impl.Field
		want bool
	}{
		{kept, true},
		{fieldsOf("b", "2", "accept", "x"), true},
		{fieldsOf("ACCEPT", "x", "B", "2", "e", ""), true},
		{fieldsOf("accept", "x", "b", "2", "c", "4"), true},
		{fieldsOf("accept", "x", "b", "2", "d", "5", "d", "6", "host", "h"), true},
		{fieldsOf("accept", "x", "b", "2", "none", ""), true},
		{fieldsOf("accept", "x", "b", "2", "none", "1"), false},
		{fieldsOf("accept", "x", "b", "2", "e", "1"), false},
		{fieldsOf("accept", "x", "b", "2", "none", "", "none", ""), false},
		{fieldsOf("accept", "X", "b", "2"), false},
		{fieldsOf("accept", "y", "b", "2"), false},
		{fieldsOf("accept", "xx", "b", "2"), false},
		{fieldsOf("accept", "x,", "b", "2"), false},
		{fieldsOf("accept", "", "b", "2"), false},
		{fieldsOf("b", "2"), false},
		{fieldsOf("accept", "x"), false},
		{fieldsOf("accept", "x", "b", ""), false},
		{fieldsOf("accept", "x", "accept", "x", "b", "2"), false},
		{fieldsOf("accept", "2", "b", "x"), false},
		{fieldsOf("accept", "x\";b=\"2"), false},
		{nil, false},
	} {
		for _, vary := range []string{"accept, b, e, none", "NONE,E,B,Accept", "b, accept, E, b, none, B"} {
			checkMatchesKept(t, keptFor(vary, kept, noon), "h/a", test.asks, test.want)
			// What was kept for the others is asked for by these.
			checkMatchesKept(t, keptFor(vary, test.asks, noon), "h/a", kept, test.want)
		}
	}
}

// Several Fields with one name are alike to one that tells the same; what is there and empty, to what is not there.
func TestMatchesByWhatGetTells(t *testing.T) {
	alike := [][]impl.Field{fieldsOf("a", "1, 2"), fieldsOf("A", "1", "a", "2"), fieldsOf("a", "1", "b", "9", "A", "2")}
	for _, kept := range alike {
		for _, asks := range alike {
			checkMatchesKept(t, keptFor("a", kept, noon), "h/a", asks, true)
		}
		for _, asks := range [][]impl.Field{fieldsOf("a", "2", "a", "1"), fieldsOf("a", "1,2"), fieldsOf("a", "1"), nil} {
			checkMatchesKept(t, keptFor("a", kept, noon), "h/a", asks, false)
		}
	}
	checkMatchesKept(t, keptFor("a", nil, noon), "h/a", fieldsOf("a", ""), true)
	checkMatchesKept(t, keptFor("a", fieldsOf("a", ""), noon), "h/a", nil, true)
	// Two that are empty tell a comma and a blank, which no one Value is.
	checkMatchesKept(t, keptFor("a", fieldsOf("a", "", "A", ""), noon), "h/a", fieldsOf("a", "", "a", ""), true)
	checkMatchesKept(t, keptFor("a", fieldsOf("a", "", "a", ""), noon), "h/a", fieldsOf("a", ","), false)
	checkMatchesKept(t, keptFor("a", fieldsOf("a", ","), noon), "h/a", fieldsOf("a", ""), false)
}

func TestMatchesOfWhatIsNotTold(t *testing.T) {
	for _, vary := range append(notNames(), "*", "a,*", "*,a", " *", "a, a b") {
		for _, asks := range [][]impl.Field{nil, fieldsOf("a", "1")} {
			// As the Value of a Field it is Trimmed.
			o := keptFor(strings.Trim(vary, " "), asks, noon)
			if !impl.ObjectOk(o) {
				t.Fatalf("%q makes it wrong", vary)
			}
			checkMatchesKept(t, o, "h/a", asks, false)
			checkMatchesKept(t, o, "h/a", fieldsOf("a", "2"), false)
		}
	}
	// Told in several Fields it is not visible, and names nothing.
	o := keptFor("", fieldsOf("a", "1"), noon)
	o.Response.Fields = fieldsOf("vary", strings.Repeat("a,", 200), "vary", "*")
	checkMatchesKept(t, o, "h/a", fieldsOf("a", "2"), true)
	o.Response.Fields = fieldsOf("vary", strings.Repeat("a,", 198), "vary", "a")
	checkMatchesKept(t, o, "h/a", fieldsOf("a", "2"), false)
	checkMatchesKept(t, o, "h/a", fieldsOf("a", "1"), true)
}

func TestMatchesOfWhatIsNotRight(t *testing.T) {
	for _, o := range wrongObjects() {
		checkMatchesKept(t, o, o.Key, o.Fields, false)
		checkMatchesKept(t, o, "h/a", fieldsOf("host", "h"), false)
	}
	for _, vary := range []string{"", "a", "none"} {
		for _, asks := range wrongLists() {
			checkMatchesKept(t, keptFor(vary, nil, noon), "h/a", asks, false)
			checkMatchesKept(t, keptFor(vary, asks, noon), "h/a", nil, false)
			checkMatchesKept(t, keptFor(vary, asks, noon), "h/a", asks, false)
		}
	}
	// It is right, whatever its Status and moments, at their edges.
	for _, o := range []impl.Object{{Response: impl.Response{Status: 200}}, {Response: impl.Response{Status: 204}, Got: lastMoment}, {Response: impl.Response{Status: 599}, Asked: lastMoment, Got: lastMoment, Epoch: 100000}} {
		checkMatchesKept(t, o, "", nil, true)
		checkMatchesKept(t, o, "h", nil, false)
	}
}

// checkChosen takes the moments at which the Objects were got, below nought for one that does not Match.
func checkChosen(t *testing.T, want int64, moments ...int64) {
	t.Helper()
	asks := fieldsOf("a", "1")
	var list []impl.Object
	for _, moment := range moments {
		o := keptFor("a", asks, moment)
		if moment < 0 {
			o = keptFor("a", fieldsOf("a", "2"), -moment)
		}
		list = append(list, o)
	}
	if got := impl.Chosen(list, "h/a", asks); got != want {
		t.Errorf("Chosen of those got at %v: %d, not %d", moments, got, want)
	}
}

func TestChosen(t *testing.T) {
	checkChosen(t, -1)
	checkChosen(t, 0, 5)
	checkChosen(t, -1, -5)
	checkChosen(t, 0, 0)
	checkChosen(t, 1, -5, 5)
	checkChosen(t, 0, 5, -5)
	checkChosen(t, 2, 5, 6, 7)
	checkChosen(t, 0, 7, 6, 5)
	checkChosen(t, 1, 5, 7, 6)
	checkChosen(t, 0, 5, 5, 5)
	checkChosen(t, 1, 4, 5, 5)
	checkChosen(t, 1, 4, 5, 5, 4)
	checkChosen(t, 1, 4, 5, 3, 5)
	checkChosen(t, 0, 0, 0)
	checkChosen(t, 1, 0, 1, 0)
	checkChosen(t, 1, 5, 7, -9)
	checkChosen(t, 2, -9, 5, 7)
	checkChosen(t, 1, -9, 5, -9, 5, -10)
	checkChosen(t, 3, -1, -2, -3, 4)
	checkChosen(t, -1, -1, -2, -3)
	checkChosen(t, 2, 0, -lastMoment, lastMoment, lastMoment-1)
	checkChosen(t, 1, lastMoment-1, lastMoment, lastMoment)
	// More than 32 bits tell them apart.
	checkChosen(t, 1, 1<<32-1, 1<<32, 1<<31)
	checkChosen(t, 0, 1<<33+1, 1<<32+2, 3)
}

// It is Got that counts, not Asked, nor the Epoch, nor what the Response tells of its age.
func TestChosenByGotAlone(t *testing.T) {
	asks := fieldsOf("a", "1")
	late, later := keptFor("a", asks, noon), keptFor("a", asks, noon+1)
	late.Asked, later.Asked = noon, 0
	late.Epoch, later.Epoch = 100000, 0
	late.Response.Fields = append(late.Response.Fields, fieldsOf("date", dateText(lastMoment), "cache-control", "max-age=1000000000")...)
	later.Response.Fields = append(later.Response.Fields, fieldsOf("date", dateText(0), "age", "999999999", "cache-control", "no-store")...)
	for _, test := range []struct {
		list []impl.Object
		want int64
	}{{[]impl.Object{late, later}, 1}, {[]impl.Object{later, late}, 0}} {
		if got := impl.Chosen(test.list, "h/a", asks); got != test.want {
			t.Errorf("Chosen: %d, not %d", got, test.want)
		}
	}
}

func TestChosenByKeyAndVary(t *testing.T) {
	other := keptFor("a", fieldsOf("a", "1"), noon+9)
	other.Key = "h/b"
	list := []impl.Object{
		keptFor("a", fieldsOf("a", "1"), noon),
		keptFor("a", fieldsOf("a", "2"), noon+1),
		keptFor("b", fieldsOf("a", "1", "b", "2"), noon+2),
		keptFor("", nil, noon-1),
		keptFor("*", nil, noon+8),
		other,
	}
	for _, test := range []struct {
		key  string
		asks []impl.Field
		want int64
	}{
		{"h/a", nil, 3},
		{"h/a", fieldsOf("a", "1"), 0},
		{"h/a", fieldsOf("a", "2"), 1},
		{"h/a", fieldsOf("a", "3"), 3},
		{"h/a", fieldsOf("b", "2"), 2},
		{"h/a", fieldsOf("a", "2", "b", "2"), 2},
		{"h/b", fieldsOf("a", "1"), 5},
		{"h/b", nil, -1},
		{"h/c", nil, -1},
		{"", nil, -1},
		{"H/A", fieldsOf("a", "1"), -1},
	} {
		if got := impl.Chosen(list, test.key, test.asks); got != test.want {
			t.Errorf("Chosen of %q, %q: %d, not %d", test.key, test.asks, got, test.want)
		}
	}
}

func TestChosenAmongWhatIsNotRight(t *testing.T) {
	wrong := wrongObjects()
	asks := fieldsOf("host", "h")
	right := objectOf(0, 0)
	if got := impl.Chosen(wrong, "h/a", asks); got != -1 {
		t.Errorf("Chosen of what is not right: %d", got)
	}
	for at := 0; at <= len(wrong); at += 29 {
		list := slices.Insert(slices.Clone(wrong), at, right)
		if got := impl.Chosen(list, "h/a", asks); got != int64(at) {
			t.Errorf("Chosen: %d, not %d", got, at)
		}
	}
	for _, list := range wrongLists() {
		if got := impl.Chosen([]impl.Object{right, right}, "h/a", list); got != -1 {
			t.Errorf("Chosen by %.60q: %d", list, got)
		}
	}
	many := make([]impl.Object, 3000)
	many[2500], many[2700] = right, right
	if got := impl.Chosen(many, "h/a", asks); got != 2500 {
		t.Errorf("Chosen of many: %d", got)
	}
}

var variedNames = []string{"a", "b", "ab", "accept"}

// mixedAsks are FieldsOk, but for one in many, and the same for one source.
func mixedAsks(source *rand.Rand) []impl.Field {
	values := []string{"", "1", "1", "2", "x", "X", "1, 2", "\"", "\\", ",", "1\";b=\"2", strings.Repeat("v", 200), strings.Repeat("v", 400)}
	list := []impl.Field{}
	for range source.Intn(5) {
		name := variedNames[source.Intn(len(variedNames))]
		switch source.Intn(3) {
		case 1:
			name = inCapitals(name)
		case 2:
			name = inBoth(name)
		}
		list = append(list, impl.Field{Name: name, Value: values[source.Intn(len(values))]})
	}
	if source.Intn(60) == 0 {
		list = append(list, impl.Field{Name: "c", Value: " "})
	}
	return list
}

func mixedVary(source *rand.Rand) string {
	parts := []string{"a", "b", "ab", "accept", "A", "Accept", "aB", "", " ", "c"}
	told := []string{}
	for range source.Intn(5) {
		told = append(told, parts[source.Intn(len(parts))])
	}
	switch source.Intn(30) {
	case 0:
		told = append(told, "*")
	case 1:
		told = slices.Insert(told, 0, "*")
	case 2:
		told = append(told, "a b")
	case 3:
		told = append(told, "\"a\"")
	case 4:
		told = append(told, strings.Repeat("a", 350))
	case 5:
		told = append(told, strings.Repeat(",", 395))
	}
	return strings.Trim(strings.Join(told, []string{",", ", ", "\t,"}[source.Intn(3)]), " \t")
}

func mixedKept(source *rand.Rand) impl.Object {
	o := impl.Object{Key: "k", Fields: mixedAsks(source), Response: impl.Response{Status: 200}, Got: source.Int63n(4)}
	for range source.Intn(3) {
		o.Response.Fields = append(o.Response.Fields, impl.Field{Name: []string{"vary", "Vary", "VARY"}[source.Intn(3)], Value: mixedVary(source)})
	}
	switch source.Intn(40) {
	case 0:
		o.Key = "K"
	case 1:
		o.Asked = o.Got + 1
	case 2:
		o.Response.Status = 99
	}
	return o
}

func TestMixedVarys(t *testing.T) {
	source := rand.New(rand.NewSource(11))
	told := map[string]int{}
	for range 20000 {
		vary, asks := mixedVary(source), mixedAsks(source)
		selecting, is := impl.Selecting(vary, asks)
		if want, too := plainSelecting(vary, asks); selecting != want || is != too {
			t.Fatalf("Selecting(%q, %q): %q, %v, not %q, %v", vary, asks, selecting, is, want, too)
		}
		list := make([]impl.Object, source.Intn(6))
		for i := range list {
			list[i] = mixedKept(source)
			matches := impl.Matches(list[i], "k", asks)
			if matches != plainMatchesKept(list[i], "k", asks) {
				t.Fatalf("Matches(%q, %q): %v", fmt.Sprint(list[i]), asks, matches)
			}
			told[fmt.Sprint("matches ", matches)]++
		}
		chosen := impl.Chosen(list, "k", asks)
		if chosen != plainChosen(list, "k", asks) {
			t.Fatalf("Chosen(%q, %q): %d", fmt.Sprint(list), asks, chosen)
		}
		told[fmt.Sprint("selecting ", is)]++
		told[fmt.Sprint("chosen ", chosen)]++
	}
	for _, kind := range []string{"matches true", "matches false", "selecting true", "selecting false", "chosen -1", "chosen 0", "chosen 1", "chosen 2", "chosen 3", "chosen 4"} {
		if told[kind] < 250 {
			t.Errorf("%s: %d times only", kind, told[kind])
		}
	}
}

// Selecting hangs on the named Fields alone, and on nothing of how vary tells their names.
func TestSelectingHangsOnTheNamedFieldsAlone(t *testing.T) {
	source := rand.New(rand.NewSource(12))
	for range 5000 {
		asks := mixedAsks(source)
		names := slices.Clone(variedNames[:1+source.Intn(4)])
		want, is := impl.Selecting(strings.Join(names, ","), asks)
		others := []impl.Field{}
		for _, field := range asks {
			others = append(others, fieldsOf("other", field.Value, "x-"+field.Name, field.Name)...)
			others = append(others, impl.Field{Name: inBoth(field.Name), Value: field.Value})
		}
		told := append(slices.Clone(names), inCapitals(names[0]), inBoth(names[len(names)-1]))
		source.Shuffle(len(told), func(i, j int) { told[i], told[j] = told[j], told[i] })
		if got, too := impl.Selecting(" ,"+strings.Join(told, "\t, "), others); got != want || is != too {
			t.Fatalf("Selecting(%q, %q): %q, %v; of %q and %q: %q, %v", told, others, got, too, names, asks, want, is)
		}
		// Without the Fields that are not named it is the same, too.
		if named := slices.DeleteFunc(slices.Clone(asks), func(field impl.Field) bool { return !slices.Contains(names, strings.ToLower(field.Name)) }); is {
			if got, _ := impl.Selecting(strings.Join(names, ","), named); got != want {
				t.Fatalf("Selecting(%q, %q): %q; of %q: %q", names, named, got, asks, want)
			}
		}
	}
}

// What Matches has one Selecting; the Chosen one is the latest.
func TestWhatMatchesHasOneSelecting(t *testing.T) {
	source := rand.New(rand.NewSource(13))
	matched := 0
	for range 5000 {
		asks := mixedAsks(source)
		list := make([]impl.Object, 5)
		for i := range list {
			list[i] = mixedKept(source)
		}
		chosen := impl.Chosen(list, "k", asks)
		for i, o := range list {
			vary, _ := impl.Get(o.Response.Fields, "vary")
			kept, is := impl.Selecting(vary, o.Fields)
			asked, too := impl.Selecting(vary, asks)
			matches := impl.Matches(o, "k", asks)
			if matches != (impl.ObjectOk(o) && o.Key == "k" && is && too && kept == asked) {
				t.Fatalf("Matches(%q, %q): %v, with the Selectings %q, %v and %q, %v", fmt.Sprint(o), asks, matches, kept, is, asked, too)
			}
			if !matches {
				if chosen == int64(i) {
					t.Fatalf("Chosen is %d, which does not Match", i)
				}
				continue
			}
			matched++
			if chosen < 0 || list[chosen].Got < o.Got || list[chosen].Got == o.Got && chosen > int64(i) {
				t.Fatalf("Chosen(%q, %q): %d, not %d", fmt.Sprint(list), asks, chosen, i)
			}
		}
		// What was kept for these very asks is the one for them.
		own := keptFor(strings.Join(variedNames, ","), asks, noon)
		if impl.FieldsOk(asks) && (!impl.Matches(own, "h/a", asks) || impl.Chosen(append(list, own), "h/a", asks) != 5) {
			t.Fatalf("what was kept for %q does not Match", asks)
		}
	}
	if matched < 3000 {
		t.Errorf("%d only matched", matched)
	}
}

func TestVaryArgumentsStay(t *testing.T) {
	source := rand.New(rand.NewSource(14))
	objects := wrongObjects()
	for range 200 {
		objects = append(objects, mixedKept(source))
	}
	for i, given := range objects {
		o, asks := roomyObject(given), roomy(mixedAsks(source))
		all := []impl.Object{o, roomyObject(objects[0]), keptFor("B, a, A", roomy(asks), noon), roomyObject(objects[i/2])}
		list := all[:3]
		before := [][]impl.Field{}
		lists := [][]impl.Field{asks}
		for _, one := range all {
			lists = append(lists, one.Fields, one.Response.Fields)
		}
		for _, one := range lists {
			before = append(before, deepFields(one[:cap(one)]))
		}
		was := slices.Clone(all)
		vary := strings.Clone("B, a, A")
		impl.Selecting(vary, asks)
		impl.Matches(o, o.Key, asks)
		impl.Chosen(list, "h/a", asks)
		impl.Chosen(list, o.Key, asks)
		for j, one := range lists {
			if !slices.Equal(one[:cap(one)], before[j]) {
				t.Fatalf("%.80q became %.80q", before[j], one[:cap(one)])
			}
		}
		if !slices.EqualFunc(all, was, sameObject) || !sameObject(o, given) || vary != "B, a, A" {
			t.Fatalf("%.80q became %.80q", fmt.Sprint(was), fmt.Sprint(all))
		}
	}
}

func TestSelectingIsNewMemory(t *testing.T) {
	for _, vary := range []string{"a", "name", "a, name", "name,NAME,name", ""} {
		for _, given := range [][]impl.Field{nil, fieldsOf("a", "1"), fieldsOf("name", "value", "a", "\"\""), fieldsOf("name", "value")} {
			told, asks := strings.Clone(vary), roomy(given)
			first, is := impl.Selecting(told, asks)
			second, _ := impl.Selecting(told, asks)
			if !is || first != second {
				t.Fatalf("Selecting(%q, %q): %q, %q", vary, given, first, second)
			}
			for _, text := range append(textsIn(asks), told, second) {
				if sharesMemory(first, text) {
					t.Errorf("Selecting(%q, %q) shares memory with %q", vary, given, text)
				}
			}
		}
	}
}

// Each function answers, the same twice, whatever it is given.
func TestVaryFunctionsAnswerAtEveryArgument(t *testing.T) {
	texts := append(append(textsOf("aB*,\" ", 4), textsOf("\x00\t,\\\x7f\xff", 3)...), oddTexts...)
	texts = append(append(texts, hugeTexts()...), mixedTexts(500, 60)...)
	for _, text := range texts {
		for _, asks := range [][]impl.Field{nil, fieldsOf("a", "1", "B", text), fieldsOf(text, "1", "ab", "2")} {
			first, is := impl.Selecting(text, asks)
			second, again := impl.Selecting(text, asks)
			if want, too := plainSelecting(text, asks); first != want || is != too || second != want || again != too {
				t.Fatalf("Selecting(%.60q, %.60q): %.80q, %v, not %.80q, %v", text, asks, first, is, want, too)
			}
			o := impl.Object{Key: text, Fields: asks, Response: impl.Response{Status: 200, Fields: fieldsOf("vary", text), Body: text}}
			for _, key := range []string{text, "", "a"} {
				checkMatchesKept(t, o, key, asks, plainMatchesKept(o, key, asks))
				checkMatchesKept(t, o, key, nil, plainMatchesKept(o, key, nil))
			}
		}
	}
	numbers := []int64{least, least + 1, -second, -1, 0, 1, noon, second, lastMoment, lastMoment + 1, greatest - 1, greatest}
	for _, number := range numbers {
		for _, other := range numbers {
			for _, epoch := range []int64{least, -1, 0, 100000, 100001, greatest} {
				for _, asks := range [][]impl.Field{nil, manyFields(30), manyFields(31), make([]impl.Field, 5)} {
					o := impl.Object{Key: "k", Fields: asks, Response: impl.Response{Status: 200, Fields: fieldsOf("vary", "n1")}, Asked: number, Got: other, Epoch: epoch}
					checkMatchesKept(t, o, "k", asks, plainMatchesKept(o, "k", asks))
					p := impl.Object{Key: "k", Fields: asks, Response: impl.Response{Status: other}, Asked: other, Got: number}
					list := []impl.Object{p, o, {}, p, o}
					if got := impl.Chosen(list, "k", asks); got != plainChosen(list, "k", asks) {
						t.Fatalf("Chosen(%.200q): %d", fmt.Sprint(list), got)
					}
				}
			}
		}
	}
}
