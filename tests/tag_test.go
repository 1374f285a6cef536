package tests

import (
	"fmt"
	"math/rand"
	"regexp"
	"slices"
	"strings"
	"testing"

	"loop.example/g00207/impl"
)

func strongTag(text string) impl.Tag {
	return impl.Tag{Text: text}
}

func weakTag(text string) impl.Tag {
	return impl.Tag{Weak: true, Text: text}
}

// bothTags are of each text the Tag that is Weak and the one that is not.
func bothTags(texts ...string) []impl.Tag {
	tags := []impl.Tag{}
	for _, text := range texts {
		tags = append(tags, strongTag(text), weakTag(text))
	}
	return tags
}

// rightTags are TagOk, each byte that a Text may have among them.
func rightTags() []impl.Tag {
	texts := []string{"", "a", "A", "x", "xx", "x,y", ",", "x\\", "\\", "\\\\", "*", "W/", "w/", "W", "/", "'", "-", "~", "!#~", "0", "00", strings.Repeat("x", 39), strings.Repeat("x", 40), strings.Repeat(",", 40), strings.Repeat("\\", 40)}
	for b := 33; b <= 126; b++ {
		if b != 34 {
			texts = append(texts, string([]byte{'b', byte(b)}))
		}
	}
	return bothTags(texts...)
}

// wrongTags are not TagOk.
func wrongTags() []impl.Tag {
	texts := []string{" ", "\t", "\"", "\"\"", "\"x\"", "x\"", "\"x", "x y", " x", "x ", "x\ty", "x\"y", "\\\"", "W/\"x\"", "\x20", "\x22", "\x7f", "x\r\n", strings.Repeat("x", 41), strings.Repeat("x", 42), strings.Repeat("x", 40) + "\"", strings.Repeat("\u00e9", 20), strings.Repeat("x", 39) + "\xff", strings.Repeat("x", 100000)}
	return bothTags(append(texts, oddTexts...)...)
}

var isTagText = regexp.MustCompile(`^[!#-~]{0,40}$`)

var isShownTag = regexp.MustCompile(`^(W/)?"([!#-~]{0,40})"$`)

// plainReadTag tells ReadTag once more.
func plainReadTag(s string) (impl.Tag, bool) {
	parts := isShownTag.FindStringSubmatch(s)
	if parts == nil {
		return impl.Tag{}, false
	}
	return impl.Tag{Weak: parts[1] != "", Text: parts[2]}, true
}

// plainMatches tells once more what NoneMatch and AnyMatch answer.
func plainMatches(s string, t impl.Tag, there bool) (bool, bool) {
	if s == "*" {
		return !there, there
	}
	alike, strong := 0, 0
	if impl.VisibleOk(s) && isTagText.MatchString(t.Text) {
		for _, item := range plainItems(s) {
			told, is := plainReadTag(item)
			if is && told.Text == t.Text {
				alike++
				if !told.Weak && !t.Weak {
					strong++
				}
			}
		}
	}
	return alike == 0 || !there, strong > 0 && there
}

func TestTagOkOfEachByte(t *testing.T) {
	for b := range 256 {
		s := string([]byte{byte(b)})
		want := b >= 33 && b <= 126 && b != 34
		for _, tag := range bothTags(s, "a"+s, s+"a", "a"+s+"a", strings.Repeat("a", 39)+s, strings.Repeat(s, 40)) {
			if impl.TagOk(tag) != want {
				t.Errorf("TagOk(%q) is not %v", fmt.Sprint(tag), want)
			}
		}
	}
}

func TestTagOkByLength(t *testing.T) {
	for n, want := range map[int]bool{0: true, 1: true, 39: true, 40: true, 41: false, 42: false, 400: false, 100000: false} {
		for _, tag := range bothTags(strings.Repeat("x", n)) {
			if impl.TagOk(tag) != want {
				t.Errorf("TagOk of %d bytes, Weak %v, is not %v", n, tag.Weak, want)
			}
		}
	}
	if !impl.TagOk(impl.Tag{}) {
		t.Error("the zero Tag is not TagOk")
	}
}

func TestTagOk(t *testing.T) {
	for _, tag := range rightTags() {
		if !impl.TagOk(tag) {
			t.Errorf("TagOk(%q) is false", fmt.Sprint(tag))
		}
	}
	for _, tag := range wrongTags() {
		if impl.TagOk(tag) {
			t.Errorf("TagOk(%.60q)", fmt.Sprint(tag))
		}
	}
}

func TestShowTag(t *testing.T) {
	for tag, want := range map[impl.Tag]string{
		{}:                                 `""`,
		weakTag(""):                        `W/""`,
		strongTag("x"):                     `"x"`,
		weakTag("x"):                       `W/"x"`,
		strongTag("a,b"):                   `"a,b"`,
		weakTag("a\\b\\"):                  `W/"a\b\"`,
		strongTag("W/"):                    `"W/"`,
		weakTag("W/"):                      `W/"W/"`,
		strongTag("*"):                     `"*"`,
		strongTag("!#~"):                   `"!#~"`,
		strongTag(strings.Repeat("x", 40)): `"` + strings.Repeat("x", 40) + `"`,
		weakTag(strings.Repeat("x", 40)):   `W/"` + strings.Repeat("x", 40) + `"`,
		strongTag(strings.Repeat("x", 41)): "",
		weakTag(strings.Repeat("x", 41)):   "",
	} {
		if got := impl.ShowTag(tag); got != want {
			t.Errorf("ShowTag(%q): %q, not %q", fmt.Sprint(tag), got, want)
		}
	}
	for _, tag := range wrongTags() {
		if got := impl.ShowTag(tag); got != "" {
			t.Errorf("ShowTag(%.60q): %.60q", fmt.Sprint(tag), got)
		}
	}
}

func TestReadTag(t *testing.T) {
	for s, want := range map[string]impl.Tag{
		`""`:                                  {},
		`W/""`:                                weakTag(""),
		`"x"`:                                 strongTag("x"),
		`W/"x"`:                               weakTag("x"),
		`"a,b"`:                               strongTag("a,b"),
		`W/"a\b\"`:                            weakTag("a\\b\\"),
		`"\"`:                                 strongTag("\\"),
		`"W/"`:                                strongTag("W/"),
		`W/"W/"`:                              weakTag("W/"),
		`"*"`:                                 strongTag("*"),
		`"` + strings.Repeat("x", 40) + `"`:   strongTag(strings.Repeat("x", 40)),
		`W/"` + strings.Repeat("x", 40) + `"`: weakTag(strings.Repeat("x", 40)),
	} {
		if got, is := impl.ReadTag(s); !is || got != want {
			t.Errorf("ReadTag(%q): %q, %v", s, fmt.Sprint(got), is)
		}
	}
}

// wrongTagTexts are of no ShowTag's making.
func wrongTagTexts() []string {
	texts := []string{
		"", `"`, `"""`, `""""`, "W", "W/", "/", `W/"`, `W/"""`, `W"x"`, `/"x"`, `w/"x"`, `w/""`, `W\"x"`, `W/W/"x"`, `"W/"x""`, `W/ "x"`, `W /"x"`, `W/w/"x"`,
		"x", "*", `"*`, `*"`, `'x'`, `x"`, `"x`, `W/x`, `W/"x`, `W/x"`, `"x"x`, `x"x"`, `"x" `, ` "x"`, "\t\"x\"", "\"x\"\t", `"x"W/`, `"x"W/"x"`, `"x""x"`, `"x","x"`, `"x", "y"`, `"x",`, `,"x"`,
		`"x y"`, `" "`, `" x"`, `"x "`, "\"\t\"", "\"x\ty\"", `"x"y"`, `"\""`, `"\"x"`, "\"\r\n\"", "\"x\"\r\n", "\"x\"\n", "\n\"x\"", "\"\x7f\"", "\"\x1f\"", "\"\x80\"", "\"\xff\"", "\"x\"\x00", "\x00\"x\"",
		`"` + strings.Repeat("x", 41) + `"`, `W/"` + strings.Repeat("x", 41) + `"`, `"` + strings.Repeat("x", 100000) + `"`, `"` + strings.Repeat("\u00e9", 20) + `"`,
		"\u201cx\u201d", "\u201dx\u201d", "`x`", "x/\"x\"", "W//\"x\"", "W/\"x\"\"", "W/\"\"x\"", strings.Repeat("\"", 42), strings.Repeat("\"", 100000), strings.Repeat("W/", 50000),
	}
	return append(texts, oddTexts...)
}

func TestReadTagOfWrongTexts(t *testing.T) {
	for _, s := range wrongTagTexts() {
		if got, is := impl.ReadTag(s); is || got != (impl.Tag{}) {
			t.Errorf("ReadTag(%.60q): %.60q, %v", s, fmt.Sprint(got), is)
		}
	}
}

func TestReadTagOfShowTag(t *testing.T) {
	made := map[string]bool{}
	for _, tag := range rightTags() {
		shown := impl.ShowTag(tag)
		if made[shown] {
			t.Errorf("%q is shown of two Tags", shown)
		}
		made[shown] = true
		if got, is := impl.ReadTag(shown); !is || got != tag {
			t.Errorf("ReadTag(%q): %q, %v, not %q", shown, fmt.Sprint(got), is, fmt.Sprint(tag))
		}
	}
	for _, tag := range wrongTags() {
		if got, is := impl.ReadTag(impl.ShowTag(tag)); is || got != (impl.Tag{}) {
			t.Errorf("ReadTag of ShowTag(%.60q): %q, %v", fmt.Sprint(tag), fmt.Sprint(got), is)
		}
	}
}

// What is shown, with each byte ahead, behind, in place of one, or with one taken away, and all short texts.
func TestReadTagOfManyTexts(t *testing.T) {
	texts := append(textsOf("W/\"ax ", 6), mixedTexts(2000, 50)...)
	for _, tag := range bothTags("", "x", "W/", "a,b", "a\\", strings.Repeat("x", 40)) {
		shown := impl.ShowTag(tag)
		texts = append(texts, nearTexts(shown)...)
		for b := range 256 {
			s := string([]byte{byte(b)})
			texts = append(texts, s+shown, shown+s)
		}
		for at := range len(shown) {
			texts = append(texts, shown[:at]+shown[at+1:], shown[:at], shown[at:])
		}
	}
	right := 0
	for _, s := range texts {
		want, there := plainReadTag(s)
		got, is := impl.ReadTag(s)
		if is != there || got != want {
			t.Errorf("ReadTag(%q): %q, %v, not %q, %v", s, fmt.Sprint(got), is, fmt.Sprint(want), there)
		}
		if is {
			right++
			if shown := impl.ShowTag(got); shown != s {
				t.Errorf("%q is read, but %q is shown", s, shown)
			}
		}
	}
	if right < 300 {
		t.Errorf("%d texts only are Tags", right)
	}
}

func TestStrongAndAlike(t *testing.T) {
	x, weakX := strongTag("x"), weakTag("x")
	long, longer := strings.Repeat("x", 40), strings.Repeat("x", 41)
	for _, c := range []struct {
		a, b          impl.Tag
		strong, alike bool
	}{
		{x, x, true, true},
		{x, weakX, false, true},
		{weakX, weakX, false, true},
		{x, strongTag("y"), false, false},
		{weakX, weakTag("y"), false, false},
		{x, weakTag("y"), false, false},
		{x, strongTag("X"), false, false},
		{x, strongTag("xx"), false, false},
		{weakX, weakTag("xx"), false, false},
		{impl.Tag{}, impl.Tag{}, true, true},
		{impl.Tag{}, weakTag(""), false, true},
		{weakTag(""), weakTag(""), false, true},
		{impl.Tag{}, x, false, false},
		{weakTag(""), x, false, false},
		{strongTag(long), strongTag(long), true, true},
		{strongTag(long), weakTag(long), false, true},
		{strongTag(long), strongTag(longer), false, false},
		{strongTag(longer), strongTag(longer), false, false},
		{strongTag(longer), weakTag(longer), false, false},
		{weakTag(longer), weakTag(longer), false, false},
		{strongTag("a b"), strongTag("a b"), false, false},
		{weakTag("a b"), strongTag("a b"), false, false},
		{strongTag("\""), strongTag("\""), false, false},
		{strongTag("\x7f"), strongTag("\x7f"), false, false},
		{strongTag("\u00e9"), strongTag("\u00e9"), false, false},
		{x, strongTag("\"x\""), false, false},
	} {
		for _, pair := range [][2]impl.Tag{{c.a, c.b}, {c.b, c.a}} {
			if got := impl.Strong(pair[0], pair[1]); got != c.strong {
				t.Errorf("Strong(%q, %q): %v", fmt.Sprint(pair[0]), fmt.Sprint(pair[1]), got)
			}
			if got := impl.Alike(pair[0], pair[1]); got != c.alike {
				t.Errorf("Alike(%q, %q): %v", fmt.Sprint(pair[0]), fmt.Sprint(pair[1]), got)
			}
		}
	}
}

func TestStrongAndAlikeOfAllPairs(t *testing.T) {
	tags := append(rightTags(), wrongTags()...)
	for _, a := range tags {
		for _, b := range tags {
			alike := a.Text == b.Text && isTagText.MatchString(a.Text)
			strong := alike && !a.Weak && !b.Weak
			if impl.Alike(a, b) != alike || impl.Strong(a, b) != strong {
				t.Errorf("%.60q and %.60q: Strong %v, Alike %v", fmt.Sprint(a), fmt.Sprint(b), impl.Strong(a, b), impl.Alike(a, b))
			}
			if impl.Strong(a, b) && !impl.Alike(a, b) {
				t.Errorf("%.60q and %.60q are Strong, but not Alike", fmt.Sprint(a), fmt.Sprint(b))
			}
		}
	}
}

// checkMatches asks NoneMatch and AnyMatch of what is there: does a Tag match when Weak doesn't count, and does it when it does.
func checkMatches(t *testing.T, s string, tag impl.Tag, alike bool, strong bool) {
	t.Helper()
	if got := impl.NoneMatch(s, tag, true); got != !alike {
		t.Errorf("NoneMatch(%.80q, %.60q, true): %v", s, fmt.Sprint(tag), got)
	}
	if got := impl.AnyMatch(s, tag, true); got != strong {
		t.Errorf("AnyMatch(%.80q, %.60q, true): %v", s, fmt.Sprint(tag), got)
	}
	// Of what is not there, whatever the text is, none matches.
	if !impl.NoneMatch(s, tag, false) {
		t.Errorf("NoneMatch(%.80q, %.60q, false) is false", s, fmt.Sprint(tag))
	}
	if impl.AnyMatch(s, tag, false) {
		t.Errorf("AnyMatch(%.80q, %.60q, false)", s, fmt.Sprint(tag))
	}
}

func TestMatchesOfAStar(t *testing.T) {
	for _, tag := range append(rightTags(), wrongTags()...) {
		checkMatches(t, "*", tag, true, true)
	}
	// Another text with a * in it is no *, and its * is no Tag.
	for _, s := range []string{" *", "* ", " * ", "\t*", "*\t", "*,", ",*", "**", "*, *", "*,*", "* *", "W/*", "\\*", "*x", "*\x00", "\x00*", "*\n", "*\xff", strings.Repeat("*", 400), "*" + strings.Repeat(" ", 399), "*" + strings.Repeat(" ", 400)} {
		for _, tag := range append(bothTags("", "*", "x", "W/*"), wrongTags()...) {
			checkMatches(t, s, tag, false, false)
		}
	}
	for _, s := range []string{`*, "x"`, `"x", *`, `"y",*,"x"`, `*,"x",*`, `"*", "x"`} {
		checkMatches(t, s, strongTag("x"), true, true)
		checkMatches(t, s, weakTag("x"), true, false)
		checkMatches(t, s, strongTag("z"), false, false)
	}
	for _, s := range []string{`"*"`, ` "*" `, `*, "*"`} {
		checkMatches(t, s, strongTag("*"), true, true)
		checkMatches(t, s, weakTag("*"), true, false)
		checkMatches(t, s, strongTag("x"), false, false)
	}
	for _, s := range []string{`W/"*"`, `*, W/"*"`} {
		checkMatches(t, s, strongTag("*"), true, false)
	}
}

func TestMatchesOfItems(t *testing.T) {
	for _, s := range []string{`"x"`, ` "x" `, "\t\"x\"\t", `"x",`, `,"x"`, `,, "x" ,,`, `"x","x"`, `"y", "x"`, `"x", "y"`, `"y","x","z"`, `W/"y", "x"`, `W/"x", "x"`, `"x", W/"x"`, `x, "x"`, `"x", x`, `a b, "x", w/"x", W/, c`, `"", "x"`, `"a,b", "x"`, `"\\", "x"`, `"a b", "x"`, `W/x, "x"`, `'y', "x"`} {
		checkMatches(t, s, strongTag("x"), true, true)
		checkMatches(t, s, weakTag("x"), true, false)
		for _, tag := range append(bothTags("X", "xx", "x,", "\"x\"", "W/", "*", "y ", ",", "a b"), wrongTags()...) {
			checkMatches(t, s, tag, false, false)
		}
	}
	for _, s := range []string{`W/"x"`, ` W/"x" `, `W/"x",W/"x"`, `"y", W/"x"`, `W/"x", "y"`, `x, W/"x", "xx", w/"x"`} {
		checkMatches(t, s, strongTag("x"), true, false)
		checkMatches(t, s, weakTag("x"), true, false)
		checkMatches(t, s, strongTag("z"), false, false)
	}
}

// Items that are no Tags count for none, not for the empty one either.
func TestMatchesOfWhatAreNoTags(t *testing.T) {
	for _, s := range []string{"", " ", ",", ", ,", "\t", "x", "x, y", `"x`, `x"`, `w/"x"`, `W/x`, "W/", `W/ "x"`, `"x" "x"`, `"x""x"`, `"x" x`, `x "x"`, `"x"; "x"`, `"x y"`, `" x"`, `"x "`, `'x'`, `"`, `"""`, `"x\"`, `"\"x"`, `"\x"`, `"y`, `"` + strings.Repeat("x", 41) + `"`} {
		for _, tag := range append(bothTags("", "x", "y", "W/", "*"), wrongTags()...) {
			checkMatches(t, s, tag, false, false)
		}
	}
	for _, s := range []string{`""`, ` "" `, `"",`, `x, ""`, `"", "x"`} {
		checkMatches(t, s, impl.Tag{}, true, true)
		checkMatches(t, s, weakTag(""), true, false)
		checkMatches(t, s, strongTag("y"), false, false)
	}
	checkMatches(t, `W/""`, impl.Tag{}, true, false)
	// What is open behind the comma takes nothing from what is closed ahead of it.
	checkMatches(t, `"x", "`, strongTag("x"), true, true)
}

// A comma between two bytes 34 parts nothing; a byte 92 takes a byte 34 along, so such a Tag stands alone or last.
func TestMatchesOfCommasAndBackslashes(t *testing.T) {
	for _, s := range []string{`"a,b"`, `"x", "a,b"`, `"a,b", "x"`, `W/"a", "a,b"`} {
		checkMatches(t, s, strongTag("a,b"), true, true)
		checkMatches(t, s, weakTag("a,b"), true, false)
		checkMatches(t, s, strongTag("b"), false, false)
	}
	checkMatches(t, `W/"a,b"`, strongTag("a,b"), true, false)
	checkMatches(t, `"a,b"`, strongTag("a"), false, false)
	checkMatches(t, `","`, strongTag(","), true, true)
	checkMatches(t, `",",","`, strongTag(","), true, true)
	checkMatches(t, `"a\"`, strongTag("a\\"), true, true)
	checkMatches(t, `W/"a\"`, strongTag("a\\"), true, false)
	checkMatches(t, `"b", "a\"`, strongTag("a\\"), true, true)
	checkMatches(t, `"a\", "b"`, strongTag("a\\"), false, false)
	checkMatches(t, `"a\", "b"`, strongTag("b"), false, false)
	checkMatches(t, `"a\\", "b"`, strongTag("a\\\\"), true, true)
	checkMatches(t, `"a\\", "b"`, strongTag("b"), true, true)
	checkMatches(t, `"a\b", "c"`, strongTag("a\\b"), true, true)
	checkMatches(t, `"a\b", "c"`, strongTag("c"), true, true)
}

func TestMatchesAtTheLimits(t *testing.T) {
	long := strings.Repeat("x", 40)
	checkMatches(t, `"`+long+`"`, strongTag(long), true, true)
	checkMatches(t, `W/"`+long+`"`, strongTag(long), true, false)
	checkMatches(t, `"`+long+`x"`, strongTag(long+"x"), false, false)
	checkMatches(t, `"`+long+`"`, strongTag(long+"x"), false, false)
	// 400 bytes are visible, 401 are not, wherever the Tag stands in them.
	checkMatches(t, `"x"`+strings.Repeat(" ", 397), strongTag("x"), true, true)
	checkMatches(t, `"x"`+strings.Repeat(" ", 398), strongTag("x"), false, false)
	checkMatches(t, strings.Repeat(",", 397)+`"x"`, strongTag("x"), true, true)
	checkMatches(t, strings.Repeat(",", 398)+`"x"`, strongTag("x"), false, false)
	checkMatches(t, strings.Repeat(`"y",`, 99)+`"x" `, strongTag("x"), true, true)
	checkMatches(t, strings.Repeat(`"y",`, 99)+`"x"  `, strongTag("x"), false, false)
	checkMatches(t, strings.Repeat(`"x",`, 50000), strongTag("x"), false, false)
	// One byte that is not visible spoils the whole text.
	for _, odd := range oddTexts {
		checkMatches(t, `"x",`+odd, strongTag("x"), false, false)
		checkMatches(t, odd+`,"x"`, strongTag("x"), false, false)
		checkMatches(t, `"x"`+odd, strongTag("x"), false, false)
	}
}

// matchTexts are of Tags, of what is near them, and of what stands between, in any order; the same in each run.
func matchTexts() []string {
	source := rand.New(rand.NewSource(8))
	pieces := []string{`"x"`, `W/"x"`, `"y"`, `W/"y"`, `""`, `W/""`, `"x,y"`, `W/"x,y"`, `"x\"`, `"x\\"`, `w/"x"`, "x", "*", `"`, "W/", " ", ",", ", ", "\t", "\\", `"x y"`}
	texts := append([]string{"*"}, textsOf("*\"x, W/", 5)...)
	for range 20000 {
		text := ""
		for range source.Intn(6) {
			text += pieces[source.Intn(len(pieces))]
			if source.Intn(3) > 0 {
				text += ", "
			}
		}
		switch source.Intn(20) {
		case 0:
			text += "\x7f"
		case 1:
			text += strings.Repeat(" ", 400)
		}
		texts = append(texts, text)
	}
	return texts
}

func TestMatchesOfManyTexts(t *testing.T) {
	tags := append(bothTags("", "x", "y", "x,y", "x\\", "x\\\\", "*"), strongTag("x y"), weakTag("\""), strongTag(strings.Repeat("x", 41)))
	var counts [4]int
	for _, s := range matchTexts() {
		for _, tag := range tags {
			for _, there := range []bool{true, false} {
				none, some := plainMatches(s, tag, there)
				if got := impl.NoneMatch(s, tag, there); got != none {
					t.Fatalf("NoneMatch(%q, %q, %v): %v", s, fmt.Sprint(tag), there, got)
				}
				if got := impl.AnyMatch(s, tag, there); got != some {
					t.Fatalf("AnyMatch(%q, %q, %v): %v", s, fmt.Sprint(tag), there, got)
				}
				if some && none {
					t.Fatalf("%q with %q: what is Strong is not Alike", s, fmt.Sprint(tag))
				}
				switch {
				case some:
					counts[0]++
				case !none:
					counts[1]++
				case there:
					counts[2]++
				default:
					counts[3]++
				}
			}
		}
	}
	if slices.Min(counts[:]) < 1000 {
		t.Errorf("the kinds came %v times only", counts)
	}
}

func TestTagAnswersAreNewMemory(t *testing.T) {
	for _, given := range append(rightTags(), wrongTags()...) {
		tag := impl.Tag{Weak: given.Weak, Text: strings.Clone(given.Text)}
		other := impl.Tag{Weak: !given.Weak, Text: strings.Clone(given.Text)}
		shown := impl.ShowTag(tag)
		if sharesMemory(shown, tag.Text) {
			t.Errorf("ShowTag(%.60q) shares memory with it", fmt.Sprint(tag))
		}
		s := strings.Clone(`W/"x", ` + shown)
		before := strings.Clone(s)
		impl.TagOk(tag)
		impl.Strong(tag, other)
		impl.Alike(tag, other)
		impl.NoneMatch(s, tag, true)
		impl.AnyMatch(s, tag, true)
		if tag != given || other != (impl.Tag{Weak: !given.Weak, Text: given.Text}) || s != before {
			t.Errorf("%.60q became %.60q, or %.60q, %.60q", fmt.Sprint(given), fmt.Sprint(tag), fmt.Sprint(other), s)
		}
		read, _ := impl.ReadTag(shown)
		again, _ := impl.ReadTag(shown)
		if sharesMemory(read.Text, shown) || sharesMemory(read.Text, again.Text) {
			t.Errorf("ReadTag(%.60q) shares memory with it, or with another answer", shown)
		}
	}
}

// Each function answers, the same twice, whatever it is given.
func TestTagFunctionsAnswerAtEveryArgument(t *testing.T) {
	texts := append(append(hugeTexts(), oddTexts...), mixedTexts(500, 60)...)
	texts = append(append(texts, wrongTagTexts()...), textsOf("\x00\"W/,\xff", 3)...)
	for _, s := range []string{"\"", "W/\"x\",", "\\", "\"\\", "\"x\", ", ",", "*"} {
		texts = append(texts, strings.Repeat(s, 50000))
	}
	for _, s := range texts {
		read, is := impl.ReadTag(s)
		again, still := impl.ReadTag(s)
		if read != again || is != still || !impl.TagOk(read) || !is && read != (impl.Tag{}) {
			t.Fatalf("ReadTag(%.60q): %q, %v", s, fmt.Sprint(read), is)
		}
		for _, tag := range bothTags(s, "x", "") {
			ok := impl.TagOk(tag)
			if impl.TagOk(tag) != ok || (impl.ShowTag(tag) != "") != ok || impl.Alike(tag, tag) != ok || impl.Strong(tag, tag) != (ok && !tag.Weak) {
				t.Fatalf("%.60q: TagOk %v, shown %.60q", fmt.Sprint(tag), ok, impl.ShowTag(tag))
			}
			for _, there := range []bool{true, false} {
				none, some := plainMatches(s, tag, there)
				if impl.NoneMatch(s, tag, there) != none || impl.AnyMatch(s, tag, there) != some {
					t.Fatalf("%.60q with %.60q, there %v: not %v, %v", s, fmt.Sprint(tag), there, none, some)
				}
			}
		}
	}
}
