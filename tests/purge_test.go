package tests

import (
	"fmt"
	"math/rand"
	"regexp"
	"slices"
	"strings"
	"testing"
	"unsafe"

	"loop.example/g00207/impl"
)

func purgeOf(kind int64, text string) impl.Purge {
	return impl.Purge{Kind: kind, Text: text}
}

// keptAt is a right Object with this Key, Epoch and surrogate-keys, each in a Field of its own.
func keptAt(key string, epoch int64, tags ...string) impl.Object {
	o := objectOf(noon, noon+3, "etag", "\"e\"")
	o.Key, o.Epoch = key, epoch
	for i, tag := range tags {
		o.Response.Fields = append(o.Response.Fields, impl.Field{Name: []string{"surrogate-key", "Surrogate-Key", "SURROGATE-KEY"}[i%3], Value: tag})
	}
	return o
}

func sameObjects(a, b []impl.Object) bool {
	return slices.EqualFunc(a, b, sameObject)
}

var isPurgeText = regexp.MustCompile(`^[!-~]{1,200}$`)
var isShownPurge = regexp.MustCompile(`^(key|tag|begin) ([!-~]{1,200})$`)

// plainPurgeOk and its kin tell the functions of the chapter once more.
func plainPurgeOk(p impl.Purge) bool {
	if p.Kind == 4 {
		return len(p.Text) == 0
	}
	return p.Kind > 0 && p.Kind < 4 && isPurgeText.MatchString(p.Text)
}

func plainShowPurge(p impl.Purge) string {
	if !plainPurgeOk(p) {
		return ""
	}
	return strings.TrimSuffix([]string{"key", "tag", "begin", "all"}[p.Kind-1]+" "+p.Text, " ")
}

func plainReadPurge(s string) (impl.Purge, bool) {
	if s == "all" {
		return impl.Purge{Kind: 4}, true
	}
	parts := isShownPurge.FindStringSubmatch(s)
	if parts == nil {
		return impl.Purge{}, false
	}
	return impl.Purge{Kind: map[string]int64{"key": 1, "tag": 2, "begin": 3}[parts[1]], Text: parts[2]}, true
}

func plainHits(p impl.Purge, o impl.Object) bool {
	if !plainPurgeOk(p) || !plainObjectOk(o) {
		return false
	}
	hits := []bool{o.Key == p.Text, false, strings.Index(o.Key, p.Text) == 0, true}
	if told, is := plainGet(o.Response.Fields, "surrogate-key"); is && isPlainText.MatchString(told) {
		for _, item := range plainItems(told) {
			hits[1] = hits[1] || item == p.Text
		}
	}
	return hits[p.Kind-1]
}

func plainLogOk(log []string) bool {
	for _, text := range log {
		if _, is := plainReadPurge(text); !is {
			return false
		}
	}
	return len(log) < 61
}

func plainBarred(log []string, o impl.Object) bool {
	if !plainLogOk(log) || !plainObjectOk(o) {
		return true
	}
	for i := len(log); int64(i) > o.Epoch; i-- {
		if p, _ := plainReadPurge(log[i-1]); plainHits(p, o) {
			return true
		}
	}
	return false
}

func plainKept(log []string, list []impl.Object) []impl.Object {
	return slices.DeleteFunc(slices.Clone(list), func(o impl.Object) bool { return plainBarred(log, o) })
}

// checkRightPurge asks of a Purge and its text all that does not hang on an Object.
func checkRightPurge(t *testing.T, p impl.Purge, text string) {
	t.Helper()
	if !impl.PurgeOk(p) {
		t.Errorf("%d %.80q is not PurgeOk", p.Kind, p.Text)
	}
	if got := impl.ShowPurge(p); got != text {
		t.Errorf("ShowPurge(%d %.80q): %.80q, not %.80q", p.Kind, p.Text, got, text)
	}
	if got, is := impl.ReadPurge(text); !is || got != p {
		t.Errorf("ReadPurge(%.80q): %d %.80q, %v", text, got.Kind, got.Text, is)
	}
	if !impl.LogOk([]string{text}) {
		t.Errorf("a log of %.80q is not LogOk", text)
	}
}

func checkWrongPurge(t *testing.T, p impl.Purge) {
	t.Helper()
	if impl.PurgeOk(p) {
		t.Errorf("%d %.80q is PurgeOk", p.Kind, p.Text)
	}
	if got := impl.ShowPurge(p); got != "" {
		t.Errorf("ShowPurge(%d %.80q): %.80q", p.Kind, p.Text, got)
	}
	for _, o := range []impl.Object{keptAt(p.Text, 0, p.Text), keptAt("h/a", 0, "t"), keptAt("", 0)} {
		if impl.Hits(p, o) {
			t.Errorf("%d %.80q Hits %.80q", p.Kind, p.Text, o.Key)
		}
	}
}

func checkNotRead(t *testing.T, text string) {
	t.Helper()
	if got, is := impl.ReadPurge(text); is || got != (impl.Purge{}) {
		t.Errorf("ReadPurge(%.80q): %d %.80q, %v", text, got.Kind, got.Text, is)
	}
	if impl.LogOk([]string{text}) {
		t.Errorf("a log of %.80q is LogOk", text)
	}
}

func checkHits(t *testing.T, p impl.Purge, o impl.Object, want bool) {
	t.Helper()
	if impl.Hits(p, o) != want {
		t.Errorf("Hits(%d %.80q, %.300q) is not %v", p.Kind, p.Text, fmt.Sprint(o), want)
	}
}

// checkBarred asks Kept, too, whose list has that one Object, alone and twice.
func checkBarred(t *testing.T, log []string, o impl.Object, want bool) {
	t.Helper()
	if impl.Barred(log, o) != want {
		t.Errorf("Barred(%.200q, %.300q) is not %v", log, fmt.Sprint(o), want)
	}
	kept := []impl.Object{o, o}
	if want {
		kept = nil
	}
	if got := impl.Kept(log, []impl.Object{o}); !sameObjects(got, kept[:len(kept)/2]) {
		t.Errorf("Kept(%.200q, %.300q): %d Objects", log, fmt.Sprint(o), len(got))
	}
	if got := impl.Kept(log, []impl.Object{o, o}); !sameObjects(got, kept) {
		t.Errorf("Kept(%.200q, %.300q twice): %d Objects", log, fmt.Sprint(o), len(got))
	}
}

func checkKept(t *testing.T, log []string, list []impl.Object, want ...impl.Object) {
	t.Helper()
	if got := impl.Kept(log, list); !sameObjects(got, want) {
		t.Errorf("Kept(%.200q, %.300q): %.300q, not %.300q", log, fmt.Sprint(list), fmt.Sprint(got), fmt.Sprint(want))
	}
}

// farKinds are none of the four.
var farKinds = []int64{0, 5, -1, -2, -3, -4, 6, 255, 256, 257, 258, 260, 1 << 32, 1<<32 + 1, 1<<32 + 4, 1 << 62, least, least + 1, least + 4, greatest - 1, greatest}

// shownWith is how the three Kinds that have a Text are shown.
var shownWith = map[int64]string{1: "key ", 2: "tag ", 3: "begin "}

func TestPurgeConstants(t *testing.T) {
	if impl.PgKey != 1 || impl.PgTag != 2 || impl.PgBegin != 3 || impl.PgAll != 4 || impl.MaxLog != 60 {
		t.Fatal(impl.PgKey, impl.PgTag, impl.PgBegin, impl.PgAll, impl.MaxLog)
	}
}

func TestPurgesByKind(t *testing.T) {
	for _, text := range []string{"a", "h/a", "all", "key", "!", "~", "0", "tag,key", "\"q\"", "A", strings.Repeat("x", 200)} {
		checkRightPurge(t, purgeOf(1, text), "key "+text)
		checkRightPurge(t, purgeOf(2, text), "tag "+text)
		checkRightPurge(t, purgeOf(3, text), "begin "+text)
		checkWrongPurge(t, purgeOf(4, text))
		for _, kind := range farKinds {
			checkWrongPurge(t, purgeOf(kind, text))
		}
	}
	checkRightPurge(t, purgeOf(4, ""), "all")
	for _, kind := range append([]int64{1, 2, 3}, farKinds...) {
		checkWrongPurge(t, purgeOf(kind, ""))
	}
}

func TestPurgesByLengthOfText(t *testing.T) {
	for size := range 210 {
		text := strings.Repeat("k", size)
		for kind, word := range shownWith {
			if 1 <= size && size <= 200 {
				checkRightPurge(t, purgeOf(kind, text), word+text)
			} else {
				checkWrongPurge(t, purgeOf(kind, text))
				checkNotRead(t, word+text)
			}
		}
		if size > 0 {
			checkWrongPurge(t, purgeOf(4, text))
			checkNotRead(t, "all"+text)
			checkNotRead(t, "all "+text)
		}
	}
}

// Each byte stands alone, first, in the middle and last, in a short Text and in the longest.
func TestPurgesByBytesOfText(t *testing.T) {
	for b := range 256 {
		s := string([]byte{byte(b)})
		for _, text := range []string{s, s + "a", "a" + s, "a" + s + "b", s + s, s + strings.Repeat("a", 199), strings.Repeat("a", 100) + s + strings.Repeat("a", 99), strings.Repeat("a", 199) + s} {
			checkWrongPurge(t, purgeOf(4, text))
			for kind, word := range shownWith {
				if 33 <= b && b <= 126 {
					checkRightPurge(t, purgeOf(kind, text), word+text)
				} else {
					checkWrongPurge(t, purgeOf(kind, text))
					checkNotRead(t, word+text)
				}
			}
		}
	}
}

func TestPurgesOfOddTexts(t *testing.T) {
	for _, text := range append(slices.Clone(oddTexts), hugeTexts()...) {
		for kind := int64(0); kind <= 5; kind++ {
			checkWrongPurge(t, purgeOf(kind, text))
		}
		for _, word := range []string{"", "key ", "tag ", "begin ", "all", "all ", "key a"} {
			checkNotRead(t, word+text)
			checkNotRead(t, text+word)
		}
	}
}

func TestReadPurgeOfNoPurge(t *testing.T) {
	for _, text := range []string{
		"", " ", "  ", "\t", "\n", "a", "*", "0", "1", "1 a",
		"key", "tag", "begin", "key ", "tag ", "begin ", " key", " tag", " begin", "key  ", "begin  ",
		"keya", "taga", "begina", "keyh/a", "key\ta", "tag\ta", "begin\na", "key:a", "key=a", "key,a",
		"key  a", "tag  a", "begin  a", "key a b", "tag a b", "begin a b", "key a ", "tag a ", "begin a ", "key a  ",
		" key a", " tag a", " begin a", "x key a", "xkey a", "all key a", "\tkey a", "key key a", "akey a", "\x00key a",
		"key a\n", "key a\t", "tag a\r\n", "begin a\x00", "key \ta", "key a\tb",
		"Key a", "KEY a", "kEy a", "keY a", "Tag a", "TAG a", "Begin a", "BEGIN a", "begiN a", "tAg a",
		"ke a", "ky a", "keys a", "ta a", "tags a", "begi a", "begins a", "bgin a", "be a", "kez a", "jey a", "tah a", "beginn a",
		"All", "ALL", "alL", "al", "a", "ll", "all ", " all", "all  ", "all a", "all all", "alla", "all\n", "all\t", "\tall", "xall", "all.", "allall", "all key", "all \x00",
		"none", "purge a", "3 a", "begin\xa0a", "key\u00a0a", "\ufeffall", "\ufeffkey a", "key é", "key a\u200b",
	} {
		checkNotRead(t, text)
	}
}

// What looks like a word of the form may be a Text.
func TestReadPurgeOfWordsAsTexts(t *testing.T) {
	checkRightPurge(t, purgeOf(1, "all"), "key all")
	checkRightPurge(t, purgeOf(2, "tag"), "tag tag")
	checkRightPurge(t, purgeOf(3, "key"), "begin key")
	checkRightPurge(t, purgeOf(1, "begin"), "key begin")
	checkRightPurge(t, purgeOf(3, "begin"), "begin begin")
	checkRightPurge(t, purgeOf(2, "all"), "tag all")
	checkRightPurge(t, purgeOf(1, "H/A"), "key H/A")
	checkRightPurge(t, purgeOf(3, "h/a?b=c&d"), "begin h/a?b=c&d")
}

// One byte more, less or other anywhere, and it is read as told or not at all.
func TestReadPurgeOfChangedTexts(t *testing.T) {
	for _, text := range []string{"all", "key h/a", "tag t1", "begin h", "key a"} {
		for at := range len(text) + 1 {
			for b := range 256 {
				changed := []string{text[:at] + string([]byte{byte(b)}) + text[at:]}
				if at < len(text) {
					changed = append(changed, text[:at]+text[at+1:], text[:at]+string([]byte{byte(b)})+text[at+1:], text[at:], text[:at])
				}
				for _, one := range changed {
					checkReadAsTold(t, one)
				}
			}
		}
	}
}

// checkReadAsTold goes both ways: what is read is shown as the text.
func checkReadAsTold(t *testing.T, text string) {
	t.Helper()
	want, is := plainReadPurge(text)
	if is {
		checkRightPurge(t, want, text)
	} else {
		checkNotRead(t, text)
	}
}

func TestHitsByKey(t *testing.T) {
	for _, test := range []struct {
		key, text  string
		is, begins bool
	}{
		{"h/a", "h/a", true, true},
		{"h/a", "h/", false, true},
		{"h/a", "h", false, true},
		{"h/ab", "h/a", false, true},
		{"h/a/b", "h/a", false, true},
		{"h/a?b", "h/a", false, true},
		{"h/ah/a", "h/a", false, true},
		{"h/a", "h/ab", false, false},
		{"h/a", "h/a/", false, false},
		{"h/a", "h/a?", false, false},
		{"h/a", "/a", false, false},
		{"h/a", "a", false, false},
		{"h/a", "/", false, false},
		{"h/a", "h/b", false, false},
		{"h/a", "g/a", false, false},
		{"h/a", "hha", false, false},
		{"h/a", "H/a", false, false},
		{"h/a", "h/A", false, false},
		{"H/A", "h/a", false, false},
		{"H/A", "H/A", true, true},
		{"H/A", "H/", false, true},
		{"xh/a", "h/a", false, false},
		{"", "h", false, false},
		{"", "!", false, false},
		{"!", "!", true, true},
		{"~", "~", true, true},
		{"~~", "~", false, true},
		{"all", "all", true, true},
		{"key", "k", false, true},
		{strings.Repeat("k", 200), strings.Repeat("k", 200), true, true},
		{strings.Repeat("k", 201), strings.Repeat("k", 200), false, true},
		{strings.Repeat("k", 199), strings.Repeat("k", 200), false, false},
		{strings.Repeat("k", 500), strings.Repeat("k", 200), false, true},
		{strings.Repeat("k", 500), "k", false, true},
		{strings.Repeat("k", 199) + "l", strings.Repeat("k", 200), false, false},
		{"l" + strings.Repeat("k", 499), "k", false, false},
	} {
		for _, tags := range [][]string{nil, {"t"}, {"x, y"}} {
			o := keptAt(test.key, 0, tags...)
			checkHits(t, purgeOf(1, test.text), o, test.is)
			checkHits(t, purgeOf(3, test.text), o, test.begins)
			checkHits(t, purgeOf(2, test.text), o, false)
			checkHits(t, purgeOf(4, ""), o, true)
			checkHits(t, purgeOf(4, test.text), o, false)
		}
	}
}

// The Key does not matter to a tag, nor the tags to what asks for the Key.
func TestHitsOfKeysAndTagsApart(t *testing.T) {
	o := keptAt("k", 0, "t")
	checkHits(t, purgeOf(1, "k"), o, true)
	checkHits(t, purgeOf(1, "t"), o, false)
	checkHits(t, purgeOf(2, "t"), o, true)
	checkHits(t, purgeOf(2, "k"), o, false)
	checkHits(t, purgeOf(3, "k"), o, true)
	checkHits(t, purgeOf(3, "t"), o, false)
	for _, key := range []string{"", "k", "t", "h/t"} {
		checkHits(t, purgeOf(2, "t"), keptAt(key, 0, "t"), true)
		checkHits(t, purgeOf(2, "t"), keptAt(key, 0, "u"), false)
	}
}

func TestHitsByTag(t *testing.T) {
	for _, test := range []struct {
		text string
		want bool
		tags []string
	}{
		{"t", false, nil},
		{"t", false, []string{""}},
		{"t", false, []string{","}},
		{"t", false, []string{"", ""}},
		{"t", true, []string{"t"}},
		{"t", true, []string{"t, u, v"}},
		{"t", true, []string{"u, t, v"}},
		{"t", true, []string{"u, v, t"}},
		{"t", true, []string{"u,t"}},
		{"t", true, []string{"t,u"}},
		{"t", true, []string{"u ,\tt\t, v"}},
		{"t", true, []string{",,t,,"}},
		{"t", true, []string{"t,t"}},
		{"t", false, []string{"tt"}},
		{"t", false, []string{"t1, 1t, 1t1"}},
		{"tt", false, []string{"t"}},
		{"tt", false, []string{"t,t"}},
		{"tt", false, []string{"t", "t"}},
		{"t,t", false, []string{"t,t"}},
		{"t,u", false, []string{"t,u"}},
		{"t", false, []string{"t u"}},
		{"u", false, []string{"t u"}},
		{"tu", false, []string{"t u"}},
		{"t", false, []string{"t\tu"}},
		{"t", false, []string{"t;u"}},
		{"t;u", true, []string{"t;u"}},
		{"t", false, []string{"T"}},
		{"T", false, []string{"t"}},
		{"T", true, []string{"t, T"}},
		{"Tag", true, []string{"tag, TAG, Tag"}},
		{"Tag", false, []string{"tag, TAG, tAg"}},
		{"t", true, []string{"u", "t"}},
		{"t", true, []string{"t", "u"}},
		{"t", true, []string{"u", "v, t", "w"}},
		{"w", true, []string{"u", "v, t", "w"}},
		{"u", true, []string{"u", "v, t", "w"}},
		{"x", false, []string{"u", "v, t", "w"}},
		{"t", true, []string{"", "", "t"}},
		{"*", false, []string{"t"}},
		{"*", true, []string{"*"}},
		{"t", false, []string{"*"}},
		{"\"t\"", true, []string{"\"t\""}},
		{"t", false, []string{"\"t\""}},
		{"\"t\"", false, []string{"t"}},
		{"\"t,u\"", true, []string{"v, \"t,u\""}},
		{"t", false, []string{"\"t,u\""}},
		{"u\"", false, []string{"\"t,u\""}},
		{"\"t", true, []string{"\"t"}},
		{"t", false, []string{"\"t, t"}},
		{"t", true, []string{"t, \"u"}},
		{"\"a\\\",b\"", true, []string{"\"a\\\",b\", c"}},
		{"c", true, []string{"\"a\\\",b\", c"}},
		{"c", false, []string{"\"a\\\\\\\",b, c"}},
		{strings.Repeat("t", 200), true, []string{strings.Repeat("t", 200)}},
		{strings.Repeat("t", 200), false, []string{strings.Repeat("t", 201)}},
		{strings.Repeat("t", 200), false, []string{strings.Repeat("t", 199)}},
		{"t", true, []string{strings.Repeat("u,", 199) + "t"}},
		{"t", true, []string{"t" + strings.Repeat(",u", 199)}},
		{"!", true, []string{"!"}},
		{"~", true, []string{"~"}},
		{"1", true, []string{"2, 1"}},
	} {
		o := keptAt("h/a", 0, test.tags...)
		checkHits(t, purgeOf(2, test.text), o, test.want)
		checkHits(t, purgeOf(1, test.text), o, false)
		checkHits(t, purgeOf(3, test.text), o, false)
		checkHits(t, purgeOf(4, ""), o, true)
		// Which other Fields there are, and where, does not matter.
		o.Response.Fields = append(fieldsOf("surrogate", test.text, "surrogate-keys", test.text), o.Response.Fields...)
		o.Response.Fields = append(o.Response.Fields, fieldsOf("key", test.text, "x-surrogate-key", test.text, "surrogate_key", test.text)...)
		checkHits(t, purgeOf(2, test.text), o, test.want)
	}
}

// It is what Get tells of which these are the Items: several Fields are one list, and one that is too long to be visible has none.
func TestHitsByWhatSeveralFieldsTell(t *testing.T) {
	long := strings.Repeat("u", 199)
	checkHits(t, purgeOf(2, "t"), keptAt("h/a", 0, long+","+long[2:], "t"), true)
	checkHits(t, purgeOf(2, "t"), keptAt("h/a", 0, long+","+long[1:], "t"), false)
	checkHits(t, purgeOf(2, "t"), keptAt("h/a", 0, "t", long+","+long[2:]), true)
	checkHits(t, purgeOf(2, "t"), keptAt("h/a", 0, "t", long+","+long[1:]), false)
	checkHits(t, purgeOf(2, long), keptAt("h/a", 0, "t", long+","+long[1:]), false)
	checkHits(t, purgeOf(4, ""), keptAt("h/a", 0, "t", long+","+long[1:]), true)
	// What one Field opens the next one closes.
	checkHits(t, purgeOf(2, "t"), keptAt("h/a", 0, "\"u", "t"), false)
	checkHits(t, purgeOf(2, "t"), keptAt("h/a", 0, "\"u", "\"", "t"), true)
	checkHits(t, purgeOf(2, "t"), keptAt("h/a", 0, "t", "\"u"), true)
}

// It is the Response that has it, not the Fields that it was asked with.
func TestHitsByTheResponse(t *testing.T) {
	o := keptAt("h/a", 0)
	o.Fields = fieldsOf("surrogate-key", "t")
	checkHits(t, purgeOf(2, "t"), o, false)
	o.Response.Body = "surrogate-key: t"
	checkHits(t, purgeOf(2, "t"), o, false)
	o.Response.Fields = fieldsOf("surrogate-key", "u")
	checkHits(t, purgeOf(2, "t"), o, false)
	checkHits(t, purgeOf(2, "u"), o, true)
	o.Response.Fields = fieldsOf("sUrrogate-keY", "t")
	checkHits(t, purgeOf(2, "t"), o, true)
	o.Response.Fields = append(manyFields(29), fieldsOf("surrogate-key", "t")...)
	checkHits(t, purgeOf(2, "t"), o, true)
	o.Response.Fields = append(fieldsOf("surrogate-key", "t"), manyFields(29)...)
	checkHits(t, purgeOf(2, "t"), o, true)
}

// Whatever else an Object is, as long as it is right.
func TestHitsOfRightObjects(t *testing.T) {
	for _, r := range rightResponses() {
		for _, epoch := range []int64{0, 1, 60, 61, 100000} {
			o := impl.Object{Key: "h/a", Response: r, Asked: 0, Got: lastMoment, Epoch: epoch}
			for _, p := range []impl.Purge{purgeOf(1, "h/a"), purgeOf(3, "h"), purgeOf(4, "")} {
				checkHits(t, p, o, true)
			}
			for _, p := range []impl.Purge{purgeOf(1, "h"), purgeOf(3, "a"), purgeOf(2, "t")} {
				checkHits(t, p, o, false)
			}
		}
	}
}

// hitsAll are Purges that would Hit the Object were it not for what is wrong in it.
func hitsAll(o impl.Object) []impl.Purge {
	list := []impl.Purge{purgeOf(4, ""), purgeOf(1, "h/a"), purgeOf(3, "h"), purgeOf(2, "t")}
	if isPurgeText.MatchString(o.Key) {
		list = append(list, purgeOf(1, o.Key), purgeOf(3, o.Key[:1]))
	}
	return list
}

func wrongTagged() []impl.Object {
	list := wrongObjects()
	for i := range list {
		if len(list[i].Response.Fields) < 20 {
			list[i].Response.Fields = append(slices.Clone(list[i].Response.Fields), fieldsOf("surrogate-key", "t")...)
		}
	}
	return slices.DeleteFunc(list, plainObjectOk)
}

func TestHitsOfWrongObjects(t *testing.T) {
	list := wrongTagged()
	if len(list) < 50 {
		t.Fatalf("%d only are wrong", len(list))
	}
	for _, o := range list {
		for _, p := range hitsAll(o) {
			checkHits(t, p, o, false)
		}
	}
	for _, p := range hitsAll(keptAt("h/a", 0, "t")) {
		checkHits(t, p, keptAt("h/a", 0, "t"), true)
		checkHits(t, p, keptAt("h/a", 100000, "t"), true)
		checkHits(t, p, keptAt("h/a", 100001, "t"), false)
		checkHits(t, p, keptAt("h/a", -1, "t"), false)
	}
}

func TestHitsOfWrongPurges(t *testing.T) {
	long := strings.Repeat("k", 201)
	for _, kind := range []int64{1, 2, 3} {
		checkHits(t, purgeOf(kind, ""), keptAt("", 0, ""), false)
		checkHits(t, purgeOf(kind, ""), keptAt("h/a", 0, ","), false)
		checkHits(t, purgeOf(kind, long), keptAt(long, 0, long), false)
		checkHits(t, purgeOf(kind, long[1:]), keptAt(long[1:], 0, long[1:]), true)
		checkHits(t, purgeOf(kind, "a b"), keptAt("a b", 0, "a b"), false)
	}
	// An Item may have a blank, but no Text has one.
	checkHits(t, purgeOf(2, "a b"), keptAt("h/a", 0, "a b"), false)
	checkHits(t, purgeOf(2, "a\tb"), keptAt("h/a", 0, "a\tb"), false)
	for _, kind := range farKinds {
		for _, text := range []string{"", "h/a", "h", "t"} {
			checkHits(t, purgeOf(kind, text), keptAt("h/a", 0, "t"), false)
		}
	}
	for _, text := range []string{"h/a", "h", "t", " ", "\x00"} {
		checkHits(t, purgeOf(4, text), keptAt("h/a", 0, "t"), false)
	}
}

// quietLog has so many texts that are right and Hit nothing that is kept here.
func quietLog(count int) []string {
	log := make([]string, count)
	for i := range log {
		log[i] = []string{"key ", "tag ", "begin "}[i%3] + fmt.Sprint("none", i)
	}
	return log
}

func checkLog(t *testing.T, log []string, want bool) {
	t.Helper()
	if impl.LogOk(log) != want {
		t.Errorf("LogOk(%.200q), %d texts, is not %v", log, len(log), want)
	}
	// Of what it does not Hit a right log bars nothing, a wrong one all.
	o := keptAt("h/a", 60, "t")
	checkBarred(t, log, o, !want)
}

func TestLogsByLength(t *testing.T) {
	checkLog(t, nil, true)
	checkLog(t, []string{}, true)
	for count := range 70 {
		checkLog(t, quietLog(count), count <= 60)
		log := make([]string, count)
		for i := range log {
			log[i] = "all"
		}
		checkLog(t, log, count <= 60)
	}
	checkLog(t, quietLog(100000), false)
	checkLog(t, make([]string, 61), false)
	checkLog(t, make([]string, 100000), false)
}

func TestLogsOfTexts(t *testing.T) {
	long := strings.Repeat("x", 200)
	for _, text := range []string{"all", "key a", "tag a", "begin a", "key " + long, "tag " + long, "begin " + long, "key ~", "begin !"} {
		checkLog(t, []string{text}, true)
		checkLog(t, []string{text, text}, true)
		checkLog(t, append(quietLog(59), text), true)
		checkLog(t, append([]string{text}, quietLog(59)...), true)
	}
}

// A text that is none is found wherever it stands.
func TestLogsWithAWrongText(t *testing.T) {
	wrong := []string{"", " ", "key", "key ", "key  a", "key a b", "KEY a", "tag", "begin ", "all ", " all", "all a", "All", "key " + strings.Repeat("x", 201), "key \x7f", "begin \xff", "a", "tag a\n", strings.Repeat("x", 100000)}
	for _, text := range wrong {
		for count := 1; count <= 60; count++ {
			if count > 5 && count < 58 {
				continue
			}
			for at := range count {
				log := quietLog(count)
				log[at] = text
				checkLog(t, log, false)
			}
		}
		checkLog(t, append(quietLog(60), text), false)
		checkLog(t, []string{text, text}, false)
	}
	checkLog(t, []string{"all", "key a", "tag a", "begin a"}, true)
}

// What its number is above of goes by the epoch: number i from 1 on has the epoch i.
func TestBarredByEpoch(t *testing.T) {
	for _, count := range []int{1, 2, 3, 30, 59, 60} {
		for _, number := range []int{1, 2, 3, 15, 29, 30, 31, 58, 59, 60} {
			if number > count {
				continue
			}
			for _, text := range []string{"key h/a", "tag t", "begin h/", "begin h/a", "all"} {
				log := quietLog(count)
				log[number-1] = text
				for _, epoch := range []int64{0, int64(number) - 2, int64(number) - 1, int64(number), int64(number) + 1, 59, 60, 61, 100000} {
					if epoch >= 0 {
						checkBarred(t, log, keptAt("h/a", epoch, "s, t"), epoch < int64(number))
					}
				}
				checkBarred(t, log, keptAt("h/b", 0, "s"), text == "all" || text == "begin h/")
				checkBarred(t, log, keptAt("g/a", 0, "s, tt"), text == "all")
			}
		}
	}
}

func TestBarredBySomeOfTheLog(t *testing.T) {
	log := []string{"key h/a", "tag t", "begin h/", "key h/b", "tag u"}
	for _, test := range []struct {
		key, tags string
		// least is the least epoch at which it is not Barred.
		least int64
	}{
		{"h/a", "x", 3}, {"h/a", "t", 3}, {"h/a", "u", 5}, {"h/b", "x", 4}, {"h/b", "t", 4}, {"h/b", "u", 5}, {"g/a", "x", 0}, {"g/a", "t", 2}, {"g/a", "t, u", 5}, {"g/a", "u,t", 5}, {"h", "x", 0}, {"", "x", 0}, {"", "t", 2}, {"H/a", "T, U", 0},
	} {
		for epoch := int64(0); epoch <= 8; epoch++ {
			checkBarred(t, log, keptAt(test.key, epoch, test.tags), epoch < test.least)
		}
		checkBarred(t, log, keptAt(test.key, 100000, test.tags), false)
		checkBarred(t, nil, keptAt(test.key, 0, test.tags), false)
		checkBarred(t, append(slices.Clone(log), "all"), keptAt(test.key, 5, test.tags), true)
		checkBarred(t, append(slices.Clone(log), "all"), keptAt(test.key, 6, test.tags), false)
		checkBarred(t, append([]string{"all"}, log...), keptAt(test.key, 0, test.tags), true)
	}
}

func TestBarredOfWhatIsNotRight(t *testing.T) {
	logs := [][]string{nil, {"all"}, {"key none"}, {"tag t"}, quietLog(60)}
	for _, o := range append(wrongObjects(), wrongTagged()...) {
		if plainObjectOk(o) {
			continue
		}
		for _, log := range logs {
			if !impl.Barred(log, o) || len(impl.Kept(log, []impl.Object{o, o})) != 0 {
				t.Errorf("not Barred: %.300q by %.80q", fmt.Sprint(o), log)
			}
		}
	}
	right := keptAt("h/a", 100000, "t")
	for _, log := range logs {
		checkBarred(t, log, right, false)
		for _, wrong := range []string{"", "al", "all ", "key", "tag a b", "\xff"} {
			checkBarred(t, append(slices.Clone(log), wrong), right, true)
			checkBarred(t, append([]string{wrong}, log...), right, true)
			checkBarred(t, append([]string{wrong}, log...), impl.Object{}, true)
		}
	}
	checkBarred(t, append(quietLog(60), "all"), right, true)
	checkBarred(t, nil, keptAt("h/a", 100001), true)
	checkBarred(t, nil, keptAt("h/a", -1), true)
	checkBarred(t, nil, keptAt(strings.Repeat("k", 500), 0), false)
	checkBarred(t, nil, keptAt(strings.Repeat("k", 501), 0), true)
}

func TestKeptInOrder(t *testing.T) {
	a, b, c, d := keptAt("h/a", 0, "t"), keptAt("h/b", 1, "t, u"), keptAt("g/c", 2, "u"), keptAt("g/d", 3)
	all := []impl.Object{a, b, c, d}
	for _, test := range []struct {
		log  []string
		want []impl.Object
	}{
		{nil, all},
		{[]string{"key none"}, all},
		{[]string{"key h/a"}, []impl.Object{b, c, d}},
		{[]string{"key h/b"}, all},
		{[]string{"key none", "key h/b"}, []impl.Object{a, c, d}},
		{[]string{"tag t"}, []impl.Object{b, c, d}},
		{[]string{"tag t", "tag t"}, []impl.Object{c, d}},
		{[]string{"begin h/"}, []impl.Object{b, c, d}},
		{[]string{"begin h/", "begin h/", "begin g/"}, []impl.Object{d}},
		{[]string{"all"}, []impl.Object{b, c, d}},
		{[]string{"all", "all"}, []impl.Object{c, d}},
		{[]string{"all", "all", "all"}, []impl.Object{d}},
		{[]string{"all", "all", "all", "all"}, nil},
		{[]string{"key none", "tag none", "begin none", "key g/d"}, []impl.Object{a, b, c}},
		{[]string{"key none", "tag none", "tag u", "key h/a"}, []impl.Object{d}},
		{[]string{"All"}, nil},
		{[]string{""}, nil},
		{[]string{"key none", "key"}, nil},
		{quietLog(60), all},
		{quietLog(61), nil},
	} {
		checkKept(t, test.log, all, test.want...)
		turnedAll, turnedWant := slices.Clone(all), slices.Clone(test.want)
		slices.Reverse(turnedAll)
		slices.Reverse(turnedWant)
		checkKept(t, test.log, turnedAll, turnedWant...)
		checkKept(t, test.log, append(slices.Clone(all), all...), append(slices.Clone(test.want), test.want...)...)
		checkKept(t, test.log, nil)
		checkKept(t, test.log, []impl.Object{})
	}
}

// An Object that is not right goes; those beside it do not.
func TestKeptAmongWrongObjects(t *testing.T) {
	a, b := keptAt("h/a", 0, "t"), keptAt("h/b", 1, "u")
	for _, wrong := range wrongObjects() {
		if plainObjectOk(wrong) {
			continue
		}
		checkKept(t, nil, []impl.Object{wrong, a, b}, a, b)
		checkKept(t, nil, []impl.Object{a, wrong, b}, a, b)
		checkKept(t, nil, []impl.Object{a, b, wrong}, a, b)
		checkKept(t, []string{"tag t"}, []impl.Object{wrong, a, wrong, b, wrong}, b)
		checkKept(t, []string{"all", "all"}, []impl.Object{wrong, a, wrong, b, wrong})
		checkKept(t, []string{"x"}, []impl.Object{wrong, a, wrong, b, wrong})
	}
}

// What is kept is kept whole, however many there are.
func TestKeptOfManyObjects(t *testing.T) {
	var list []impl.Object
	for i, r := range rightResponses() {
		list = append(list, impl.Object{Key: fmt.Sprint("h/", i), Fields: manyFields(i % 31), Response: r, Asked: int64(i), Got: int64(2 * i), Epoch: int64(i)})
	}
	for _, o := range agingObjects()[:200] {
		o.Epoch = 7
		list = append(list, o)
	}
	checkKept(t, nil, list, list...)
	checkKept(t, quietLog(60), list, list...)
	checkKept(t, []string{"all", "all", "all"}, list, list[3:]...)
	checkKept(t, []string{"key none", "key none", "key none", "key none", "key none", "key none", "key none", "key k"}, list, slices.DeleteFunc(slices.Clone(list), func(o impl.Object) bool { return o.Key == "k" })...)
	for range 4 {
		list = append(list, list...)
	}
	checkKept(t, nil, list, list...)
}

// drawnPurge is right, and of few Texts, so that they often Hit.
func drawnPurge(source *rand.Rand) impl.Purge {
	p := purgeOf(1+source.Int63n(4), "")
	switch p.Kind {
	case 1:
		p.Text = []string{"h/a", "h/b", "h/ab", "g/a", "h", "g"}[source.Intn(6)]
	case 2:
		p.Text = []string{"t", "u", "T", "tu", "\"t,u\"", "v"}[source.Intn(6)]
	case 3:
		p.Text = []string{"h", "h/", "h/a", "g/", "g/b", "H", "h/abc"}[source.Intn(7)]
	}
	return p
}

func drawnLog(source *rand.Rand, most int) []string {
	log := make([]string, source.Intn(most+1))
	for i := range log {
		p := drawnPurge(source)
		for p.Kind == 4 && source.Intn(6) > 0 {
			p = drawnPurge(source)
		}
		log[i] = plainShowPurge(p)
	}
	return log
}

// drawnKept is right, but for one in many.
func drawnKept(source *rand.Rand, most int64) impl.Object {
	keys := []string{"h/a", "h/b", "h/ab", "h/abc", "g/a", "g/b", "h", "", "H/a"}
	tags := []string{"t", "u", "t, u", "u,t", "tu", "\"t,u\"", "T", "", "t u", "v, \"t,u\"", "w", "w"}
	o := keptAt(keys[source.Intn(len(keys))], source.Int63n(most+1))
	for range source.Intn(3) {
		o.Response.Fields = append(o.Response.Fields, impl.Field{Name: []string{"surrogate-key", "Surrogate-Key", "other"}[source.Intn(3)], Value: tags[source.Intn(len(tags))]})
	}
	o.Fields = mixedAsks(source)
	switch source.Intn(40) {
	case 0:
		o.Asked = o.Got + 1
	case 1:
		o.Epoch = -1
	case 2:
		o.Key = "h/ a"
	case 3:
		o.Response.Status = 99
	}
	return o
}

func TestDrawnPurges(t *testing.T) {
	source := rand.New(rand.NewSource(27))
	told := map[string]int{}
	for range 20000 {
		p, o := drawnPurge(source), drawnKept(source, 5)
		hits := impl.Hits(p, o)
		if hits != plainHits(p, o) {
			t.Fatalf("Hits(%v, %.300q): %v", p, fmt.Sprint(o), hits)
		}
		told[fmt.Sprint("hits by ", p.Kind, " ", hits)]++
		checkRightPurge(t, p, plainShowPurge(p))
		log := drawnLog(source, 8)
		if source.Intn(20) == 0 {
			log = append(log, []string{"", "all ", "key", "tag t ", "begin  h"}[source.Intn(5)])
			source.Shuffle(len(log), func(i, j int) { log[i], log[j] = log[j], log[i] })
		}
		barred, is := impl.Barred(log, o), impl.LogOk(log)
		if barred != plainBarred(log, o) || is != plainLogOk(log) {
			t.Fatalf("Barred(%q, %.300q): %v, LogOk %v", log, fmt.Sprint(o), barred, is)
		}
		told[fmt.Sprint("barred ", barred)]++
		told[fmt.Sprint("log ", is)]++
		if t.Failed() {
			t.FailNow()
		}
	}
	for _, kind := range []string{"hits by 1 true", "hits by 1 false", "hits by 2 true", "hits by 2 false", "hits by 3 true", "hits by 3 false", "hits by 4 true", "hits by 4 false", "barred true", "barred false", "log true", "log false"} {
		if told[kind] < 100 {
			t.Errorf("%s: %d times only", kind, told[kind])
		}
	}
}

// What is Kept is not Barred, and in order; what is not Kept is Barred.
func TestWhatIsKeptIsNotBarred(t *testing.T) {
	source := rand.New(rand.NewSource(28))
	kept, gone := 0, 0
	for range 1500 {
		log := drawnLog(source, 12)
		list := make([]impl.Object, source.Intn(12))
		for i := range list {
			list[i] = drawnKept(source, 12)
			// What tells them apart in the answer.
			list[i].Response.Body = fmt.Sprint("number ", i)
		}
		got := impl.Kept(log, list)
		checkKept(t, log, list, plainKept(log, list)...)
		checkKept(t, log, got, got...)
		next := 0
		for _, o := range list {
			if next < len(got) && sameObject(got[next], o) {
				next++
				kept++
				if impl.Barred(log, o) {
					t.Fatalf("Kept(%q, ..) has %.300q, which is Barred", log, fmt.Sprint(o))
				}
				continue
			}
			gone++
			if !impl.Barred(log, o) {
				t.Fatalf("Kept(%q, ..) has not %.300q, which is not Barred", log, fmt.Sprint(o))
			}
		}
		if next != len(got) || t.Failed() {
			t.Fatalf("Kept(%q, ..) has %d Objects, of which %d come in order", log, len(got), next)
		}
	}
	if kept < 1000 || gone < 1000 {
		t.Errorf("%d kept, %d gone only", kept, gone)
	}
}

// What is Barred by a log is so by a longer one that begins with it, and less is Kept by it.
func TestMoreLogBarsMore(t *testing.T) {
	source := rand.New(rand.NewSource(29))
	more := 0
	for range 600 {
		log := drawnLog(source, 60)
		o := drawnKept(source, 20)
		barred := false
		for count := range len(log) + 1 {
			now := impl.Barred(log[:count], o)
			if barred && !now {
				t.Fatalf("Barred by %q, but not by %q: %.300q", log[:count-1], log[:count], fmt.Sprint(o))
			}
			if now && !barred && count > 0 {
				more++
				// It is the last one that Hits it, with an epoch above its own.
				p, is := impl.ReadPurge(log[count-1])
				if !is || !impl.Hits(p, o) || int64(count) <= o.Epoch {
					t.Fatalf("Barred by %q as the last of %d: %.300q", log[count-1], count, fmt.Sprint(o))
				}
			}
			barred = now
		}
		list := make([]impl.Object, 10)
		for i := range list {
			list[i] = drawnKept(source, 40)
		}
		cut := source.Intn(len(log) + 1)
		less := impl.Kept(log, list)
		checkKept(t, log, impl.Kept(log[:cut], list), less...)
	}
	if more < 200 {
		t.Errorf("%d became Barred only", more)
	}
}

// What was fetched behind all of the log is not Barred by it, and what was fetched at a time is not by what was told till then.
func TestWhatWasFetchedBehindTheLogIsNotBarred(t *testing.T) {
	source := rand.New(rand.NewSource(30))
	freed := 0
	for range 2000 {
		log, o := drawnLog(source, 60), drawnKept(source, 0)
		if !impl.ObjectOk(o) {
			continue
		}
		if impl.Barred(log, o) {
			freed++
		}
		barred := true
		for epoch := range int64(62) {
			o.Epoch = epoch
			now := impl.Barred(log, o)
			if now && !barred {
				t.Fatalf("Barred(%q, %.300q), but not with an epoch less", log, fmt.Sprint(o))
			}
			if epoch >= int64(len(log)) && now {
				t.Fatalf("Barred(%q, %.300q), though it was fetched behind it", log, fmt.Sprint(o))
			}
			barred = now
		}
		for _, epoch := range []int64{int64(len(log)), int64(len(log)) + 1, 99999, 100000} {
			o.Epoch = epoch
			checkBarred(t, log, o, false)
		}
	}
	if freed < 1000 {
		t.Errorf("%d were Barred at first only", freed)
	}
}

func roomyTexts(list []string) []string {
	all := make([]string, len(list)+5)
	for i := range all {
		all[i] = "behind it"
	}
	for i, text := range list {
		all[i] = strings.Clone(text)
	}
	return all[:len(list)]
}

func roomyObjects(list []impl.Object) []impl.Object {
	all := make([]impl.Object, len(list)+5)
	for i := range all {
		all[i] = roomyObject(keptAt("behind", 0, "it"))
	}
	for i, o := range list {
		all[i] = roomyObject(o)
	}
	return all[:len(list)]
}

func objectsShare(a, b []impl.Object) bool {
	if cap(a) == 0 || cap(b) == 0 {
		return false
	}
	const size = unsafe.Sizeof(impl.Object{})
	fromA, fromB := uintptr(unsafe.Pointer(unsafe.SliceData(a))), uintptr(unsafe.Pointer(unsafe.SliceData(b)))
	return fromA < fromB+uintptr(cap(b))*size && fromB < fromA+uintptr(cap(a))*size
}

// deepObjects are as they were, with what stands in the room behind their lists, in new memory.
func deepObjects(list []impl.Object) []impl.Object {
	copied := make([]impl.Object, len(list))
	for i, o := range list {
		copied[i] = o
		copied[i].Key, copied[i].Response.Body = strings.Clone(o.Key), strings.Clone(o.Response.Body)
		copied[i].Fields = deepFields(o.Fields[:cap(o.Fields)])
		copied[i].Response.Fields = deepFields(o.Response.Fields[:cap(o.Response.Fields)])
	}
	return copied
}

// checkObjectsApart asks that no list of the one shares memory with one of the other, and no text either.
func checkObjectsApart(t *testing.T, a, b impl.Object) {
	t.Helper()
	for _, list := range [][]impl.Field{a.Fields, a.Response.Fields} {
		if listsShare(list, b.Fields) || listsShare(list, b.Response.Fields) {
			t.Fatalf("the lists of %.200q and %.200q share memory", fmt.Sprint(a), fmt.Sprint(b))
		}
	}
	if anyShares(allTexts(a), allTexts(b)) {
		t.Fatalf("the texts of %.200q and %.200q share memory", fmt.Sprint(a), fmt.Sprint(b))
	}
}

func TestPurgesStayAndKeptIsNewMemory(t *testing.T) {
	source := rand.New(rand.NewSource(31))
	wrong := wrongTagged()
	for round := range 120 {
		given := make([]impl.Object, source.Intn(7))
		for i := range given {
			given[i] = drawnKept(source, 20)
		}
		if round%4 == 0 {
			given = append(given, wrong[source.Intn(len(wrong))])
		}
		log, list := roomyTexts(drawnLog(source, 6)), roomyObjects(given)
		if round%10 == 0 {
			log = roomyTexts(append(log, "none"))
		}
		wasLog, was := slices.Clone(log[:cap(log)]), deepObjects(list[:cap(list)])
		for _, o := range list {
			impl.Barred(log, o)
			impl.Hits(purgeOf(2, "t"), o)
		}
		impl.LogOk(log)
		kept, again := impl.Kept(log, list), impl.Kept(log, list)
		if objectsShare(kept, list) || objectsShare(kept, again) || listsShareInside(kept) {
			t.Fatalf("Kept of %d shares memory", len(list))
		}
		for i, o := range kept {
			checkObjectsApart(t, o, again[i])
			for _, other := range list[:cap(list)] {
				checkObjectsApart(t, o, other)
			}
			for j := range i {
				checkObjectsApart(t, o, kept[j])
			}
		}
		writeInto(kept)
		if !sameObjects(again, plainKept(log, given)) {
			t.Fatalf("an answer became %.300q", fmt.Sprint(again))
		}
		if !slices.Equal(log[:cap(log)], wasLog) || !sameObjects(deepObjects(list[:cap(list)]), was) {
			t.Fatalf("%.300q became %.300q, or %.100q %.100q", fmt.Sprint(was), fmt.Sprint(list[:cap(list)]), wasLog, log[:cap(log)])
		}
	}
}

func listsShareInside(list []impl.Object) bool {
	return slices.ContainsFunc(list, func(o impl.Object) bool { return listsShare(o.Fields, o.Response.Fields) })
}

// writeInto writes wherever one who has the answer may, and behind it.
func writeInto(list []impl.Object) {
	for _, o := range list {
		for _, fields := range [][]impl.Field{o.Fields, o.Response.Fields} {
			for i := range fields {
				fields[i] = impl.Field{Name: "written", Value: "into"}
			}
			_ = append(fields, impl.Field{Name: "written", Value: "behind"})
		}
	}
	clear(list)
	_ = append(list, impl.Object{Key: "written"})
}

func TestPurgeTextsAreNewMemory(t *testing.T) {
	for _, given := range []string{"key h/a", "tag t1", "begin h/", "key a", "begin " + strings.Repeat("x", 200), "all"} {
		text := strings.Clone(given)
		first, is := impl.ReadPurge(text)
		second, _ := impl.ReadPurge(text)
		if !is || first != second || sharesMemory(first.Text, text) || sharesMemory(first.Text, second.Text) {
			t.Errorf("ReadPurge(%.60q): %.60q, which shares memory", text, first.Text)
		}
		p := impl.Purge{Kind: first.Kind, Text: strings.Clone(first.Text)}
		shown := impl.ShowPurge(p)
		if shown != given || sharesMemory(shown, p.Text) || p != first {
			t.Errorf("ShowPurge(%.60q): %.60q, which shares memory", p.Text, shown)
		}
	}
}

// Each function answers, whatever it is given.
func TestPurgeFunctionsAnswerAtEveryArgument(t *testing.T) {
	texts := append(append(textsOf("ak \x7f", 4), textsOf("\x00\t,\"\xff", 3)...), oddTexts...)
	texts = append(append(texts, hugeTexts()...), mixedTexts(300, 60)...)
	kinds := append([]int64{1, 2, 3, 4}, farKinds...)
	for _, text := range texts {
		for _, word := range []string{"", "key ", "tag ", "begin ", "all"} {
			checkReadAsTold(t, word+text)
		}
		o := impl.Object{Key: text, Fields: fieldsOf("a", text), Response: impl.Response{Status: 200, Fields: fieldsOf("surrogate-key", text), Body: text}}
		right := keptAt("ak", 0, "k, a")
		for _, kind := range kinds {
			p := purgeOf(kind, text)
			if impl.PurgeOk(p) != plainPurgeOk(p) || impl.ShowPurge(p) != plainShowPurge(p) {
				t.Fatalf("%d %.60q: %v, %.60q", kind, text, impl.PurgeOk(p), impl.ShowPurge(p))
			}
			checkHits(t, p, o, plainHits(p, o))
			checkHits(t, p, right, plainHits(p, right))
		}
		for _, log := range [][]string{nil, {text}, {"key " + text}, {"tag " + text}, {"all", text}, {text, "all"}, {"begin a", "tag k"}} {
			if impl.LogOk(log) != plainLogOk(log) {
				t.Fatalf("LogOk(%.60q): %v", log, impl.LogOk(log))
			}
			checkBarred(t, log, o, plainBarred(log, o))
			checkBarred(t, log, right, plainBarred(log, right))
			checkKept(t, log, []impl.Object{right, o, right}, plainKept(log, []impl.Object{right, o, right})...)
		}
	}
	numbers := []int64{least, least + 1, -second, -1, 0, 1, 2, 60, 61, 100000, 100001, 1 << 32, lastMoment, lastMoment + 1, greatest - 1, greatest}
	for _, number := range numbers {
		for _, other := range numbers {
			for _, log := range [][]string{nil, {"all"}, quietLog(60), quietLog(61), append(quietLog(59), "all")} {
				o := keptAt("h/a", number, "t")
				checkBarred(t, log, o, plainBarred(log, o))
				o.Asked, o.Got, o.Epoch = number, other, other
				checkBarred(t, log, o, plainBarred(log, o))
			}
			p := purgeOf(number, "h/a")
			checkHits(t, p, keptAt("h/a", other, "t"), plainHits(p, keptAt("h/a", other, "t")))
		}
	}
}
