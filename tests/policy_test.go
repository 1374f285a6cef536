package tests

import (
	"fmt"
	"math/rand"
	"regexp"
	"slices"
	"strconv"
	"strings"
	"testing"
	"time"

	"loop.example/g00207/impl"
)

const lastMoment = impl.MaxMoment

// noon is an ordinary moment, far from the first and the last one.
const noon = 951912000

// dateText is a moment as a date is written, by the library's calendar.
func dateText(moment int64) string {
	return time.Unix(moment, 0).UTC().Format("Mon, 02 Jan 2006 15:04:05 GMT")
}

// answerOf is a Response of Status 200, with names and values in turn.
func answerOf(texts ...string) impl.Response {
	return impl.Response{Status: 200, Fields: fieldsOf(texts...), Body: "b"}
}

func objectOf(asked, got int64, texts ...string) impl.Object {
	return impl.Object{Key: "h/a", Fields: fieldsOf("host", "h"), Response: answerOf(texts...), Asked: asked, Got: got, Epoch: 1}
}

func sameObject(a, b impl.Object) bool {
	return a.Key == b.Key && slices.Equal(a.Fields, b.Fields) && sameResponse(a.Response, b.Response) && a.Asked == b.Asked && a.Got == b.Got && a.Epoch == b.Epoch
}

// asking are Fields of a request with this cache-control.
func asking(control string) []impl.Field {
	return fieldsOf("cache-control", control)
}

// notDates are no Dates, though Values of a Field.
var notDates = []string{"", "0", "-1", "now", "951912000", "Wed, 01 Mar 2000 12:00:00", "Thu, 01 Mar 2000 12:00:00 GMT", "wed, 01 mar 2000 12:00:00 gmt", "Wed, 01 Mar 2000 12:00:60 GMT", "Wed, 30 Feb 2000 12:00:00 GMT", "Wednesday, 01-Mar-00 12:00:00 GMT", "Wed Mar  1 12:00:00 2000", "Wed, 01 Mar 2000 12:00:00 UTC", "Wed,  01 Mar 2000 12:00:00 GMT", "\"Wed, 01 Mar 2000 12:00:00 GMT\""}

// notTags are no Tags, though Values of a Field.
var notTags = []string{"", "e", "\"", "\"e", "e\"", "w/\"e\"", "W/e", "W/ \"e\"", "\"a b\"", "\"a\", \"b\"", "*", "\"" + strings.Repeat("e", 41) + "\"", "W/", "'e'"}

var tagTexts = []string{"\"\"", "\"e\"", "W/\"e\"", "W/\"\"", "\"" + strings.Repeat("e", 40) + "\"", "\"a,b\"", "\"W/\""}

// wrongObjects are not ObjectOk, each by one thing.
func wrongObjects() []impl.Object {
	right := objectOf(noon, noon+3, "cache-control", "max-age=10", "etag", "\"e\"")
	wrong := []impl.Object{{}}
	add := func(change func(o *impl.Object)) {
		o := right
		change(&o)
		wrong = append(wrong, o)
	}
	for _, key := range append([]string{" ", "h /a", "\t", "h/a\x7f", "\x1f", strings.Repeat("k", 501), strings.Repeat("k", 100000)}, oddTexts...) {
		add(func(o *impl.Object) { o.Key = key })
	}
	for _, list := range wrongLists() {
		add(func(o *impl.Object) { o.Fields = list })
	}
	for _, r := range wrongResponses() {
		add(func(o *impl.Object) { o.Response = r })
	}
	for _, moment := range []int64{-1, -noon, least, least + 1, lastMoment + 1, lastMoment + 2, 1 << 62, greatest - 1, greatest} {
		add(func(o *impl.Object) { o.Asked = moment })
		add(func(o *impl.Object) { o.Got = moment })
		add(func(o *impl.Object) { o.Asked, o.Got = moment, moment })
	}
	add(func(o *impl.Object) { o.Asked, o.Got = noon+1, noon })
	add(func(o *impl.Object) { o.Asked, o.Got = lastMoment, 0 })
	for _, epoch := range []int64{-1, -2, 100001, 100002, 1 << 32, 1<<32 + 1, least, greatest} {
		add(func(o *impl.Object) { o.Epoch = epoch })
	}
	return wrong
}

var isSolid = regexp.MustCompile(`^[!-~]{0,500}$`)

func isMoment(moment int64) bool {
	return moment >= 0 && moment <= 253402300799
}

// plainObjectOk and its kin tell the functions of the chapter once more.
func plainObjectOk(o impl.Object) bool {
	return isSolid.MatchString(o.Key) && impl.FieldsOk(o.Fields) && impl.ResponseOk(o.Response) && isMoment(o.Asked) && isMoment(o.Got) && o.Got-o.Asked >= 0 && min(max(o.Epoch, 0), 100000) == o.Epoch
}

func plainControl(list []impl.Field) impl.Control {
	text, _ := plainGet(list, "cache-control")
	return plainReadControl(text)
}

func plainTagged(list []impl.Field) bool {
	text, _ := plainGet(list, "etag")
	_, is := plainReadTag(text)
	return is
}

func plainMoment(list []impl.Field, name string) (int64, bool) {
	text, _ := plainGet(list, name)
	if !rightByTime(text) {
		return 0, false
	}
	at, _ := time.Parse("Mon, 02 Jan 2006 15:04:05 GMT", text)
	return at.Unix(), true
}

func plainStorable(method string, asks []impl.Field, r impl.Response) bool {
	if !impl.FieldsOk(asks) || !impl.ResponseOk(r) {
		return false
	}
	asked, told := plainControl(asks), plainControl(r.Fields)
	_, expires := plainGet(r.Fields, "expires")
	_, authorization := plainGet(asks, "authorization")
	for _, hindrance := range []bool{
		method != "GET",
		!slices.Contains([]int64{200, 203, 204, 300, 301, 404, 410}, r.Status),
		asked.NoStore, told.NoStore, told.Private,
		told.Shared < 0 && told.MaxAge < 0 && !expires && !plainTagged(r.Fields),
		authorization && told.Shared < 0 && !told.Must,
	} {
		if hindrance {
			return false
		}
	}
	return true
}

func plainLifetime(r impl.Response) int64 {
	if !impl.ResponseOk(r) {
		return -1
	}
	told := plainControl(r.Fields)
	for _, seconds := range []int64{told.Shared, told.MaxAge} {
		if seconds >= 0 {
			return seconds
		}
	}
	expires, is := plainMoment(r.Fields, "expires")
	date, too := plainMoment(r.Fields, "date")
	if !is || !too || expires < date {
		return 0
	}
	return expires - date
}

var isDigits = regexp.MustCompile(`^[0-9]{1,15}$`)

func plainAgeAt(o impl.Object, now int64) int64 {
	if !plainObjectOk(o) || !isMoment(now) || now < o.Got {
		return -1
	}
	ages := []int64{now - o.Asked}
	if text, _ := plainGet(o.Response.Fields, "age"); isDigits.MatchString(text) {
		told, _ := strconv.ParseInt(text, 10, 64)
		ages = append(ages, told+now-o.Asked)
	}
	if date, is := plainMoment(o.Response.Fields, "date"); is {
		ages = append(ages, now-date)
	}
	// Nought and now less Got need no place here: Asked is not above Got, so the first is not less than they.
	return min(slices.Max(ages), 1000000000)
}

func plainFreshAt(o impl.Object, now int64) bool {
	age := plainAgeAt(o, now)
	return age >= 0 && age+1 <= plainLifetime(o.Response) && !plainControl(o.Response.Fields).NoCache
}

func plainDecided(asks []impl.Field, o impl.Object, now int64) int64 {
	age := plainAgeAt(o, now)
	if age < 0 || !impl.FieldsOk(asks) {
		return 0
	}
	asked, told := plainControl(asks), plainControl(o.Response.Fields)
	may := !asked.NoCache && (asked.MaxAge < 0 || asked.MaxAge >= age)
	fresh := plainFreshAt(o, now)
	over := age - plainLifetime(o.Response)
	switch {
	case fresh && may && !asked.NoStore:
		return 1
	case !fresh && may && !told.NoCache && !told.Must && asked.Stale >= 0 && over <= asked.Stale:
		return 1
	case plainTagged(o.Response.Fields):
		return 2
	}
	return 3
}

func plainRenewed(o impl.Object, r impl.Response, asked, got int64) (impl.Object, bool) {
	if !plainObjectOk(o) || !impl.ResponseOk(r) || r.Status != 304 {
		return impl.Object{}, false
	}
	list := slices.Clone(o.Response.Fields)
	for _, field := range r.Fields {
		list = append(plainWithout(list, field.Name), field)
	}
	o.Response.Fields, o.Asked, o.Got = list, asked, got
	if !plainObjectOk(o) {
		return impl.Object{}, false
	}
	return o, true
}

func TestPolicyConstants(t *testing.T) {
	if impl.MaxEpoch != 100000 || impl.DcServe != 1 || impl.DcCheck != 2 || impl.DcFetch != 3 {
		t.Fatal(impl.MaxEpoch, impl.DcServe, impl.DcCheck, impl.DcFetch)
	}
}

func TestObjectOkByKey(t *testing.T) {
	o := objectOf(noon, noon, "a", "1")
	for size, want := range map[int]bool{0: true, 1: true, 200: true, 201: true, 499: true, 500: true, 501: false, 502: false, 1000: false, 100000: false} {
		if o.Key = strings.Repeat("k", size); impl.ObjectOk(o) != want {
			t.Errorf("ObjectOk with a Key of %d bytes is not %v", size, want)
		}
	}
	for b := range 256 {
		s := string([]byte{byte(b)})
		want := b >= 33 && b <= 126
		for _, key := range []string{s, "h" + s, s + "h", "h/" + s + "a", strings.Repeat("k", 499) + s, s + strings.Repeat("k", 499)} {
			if o.Key = key; impl.ObjectOk(o) != want {
				t.Errorf("ObjectOk with the Key %.20q is not %v", key, want)
			}
		}
	}
	for _, key := range oddTexts {
		if o.Key = key; impl.ObjectOk(o) {
			t.Errorf("ObjectOk with the Key %q", key)
		}
	}
	// 500 bytes, not 500 runes.
	if o.Key = strings.Repeat("\u00e9", 250); impl.ObjectOk(o) {
		t.Error("ObjectOk with a Key of other letters")
	}
}

func TestObjectOkByFieldsAndResponse(t *testing.T) {
	o := objectOf(noon, noon, "a", "1")
	for _, list := range append(append(someFields(), mixedFields(100)...), manyFields(30)) {
		if o.Fields = list; !impl.ObjectOk(o) {
			t.Errorf("ObjectOk with the Fields %.60q is false", list)
		}
	}
	for _, list := range wrongLists() {
		if o.Fields = list; impl.ObjectOk(o) {
			t.Errorf("ObjectOk with the Fields %.60q", list)
		}
	}
	o.Fields = nil
	for _, r := range append(rightResponses(), impl.Response{Status: 200, Fields: manyFields(30)}) {
		if o.Response = r; !impl.ObjectOk(o) {
			t.Errorf("ObjectOk with the Response %.60q is false", fmt.Sprint(r))
		}
	}
	for _, r := range wrongResponses() {
		if o.Response = r; impl.ObjectOk(o) {
			t.Errorf("ObjectOk with the Response %.60q", fmt.Sprint(r))
		}
	}
}

func TestObjectOkByMomentsAndEpoch(t *testing.T) {
	moments := []int64{least, least + 1, -noon, -2, -1, 0, 1, noon, noon + 1, lastMoment - 1, lastMoment, lastMoment + 1, lastMoment + 2, 1 << 62, greatest - 1, greatest}
	for _, asked := range moments {
		for _, got := range moments {
			want := asked >= 0 && got <= 253402300799 && asked <= got
			if impl.ObjectOk(objectOf(asked, got)) != want {
				t.Errorf("ObjectOk with Asked %d and Got %d is not %v", asked, got, want)
			}
		}
	}
	o := objectOf(noon, noon, "a", "1")
	for epoch, want := range map[int64]bool{-1: false, 0: true, 1: true, 60: true, 99999: true, 100000: true, 100001: false, -100000: false, 1 << 32: false, 1<<32 + 1: false, least: false, greatest: false} {
		if o.Epoch = epoch; impl.ObjectOk(o) != want {
			t.Errorf("ObjectOk with the Epoch %d is not %v", epoch, want)
		}
	}
}

func TestObjectOkOfWrongObjects(t *testing.T) {
	for _, o := range wrongObjects() {
		if impl.ObjectOk(o) {
			t.Errorf("ObjectOk(%.100q)", fmt.Sprint(o))
		}
	}
	if !impl.ObjectOk(impl.Object{Response: impl.Response{Status: 200}}) {
		t.Error("ObjectOk of what has nothing but a Response is false")
	}
}

func checkStorable(t *testing.T, method string, asks []impl.Field, r impl.Response, want bool) {
	t.Helper()
	if impl.Storable(method, asks, r) != want {
		t.Errorf("Storable(%q, %.80q, %.120q) is not %v", method, asks, fmt.Sprint(r), want)
	}
}

func TestStorableByMethod(t *testing.T) {
	r := answerOf("cache-control", "max-age=10")
	checkStorable(t, "GET", nil, r, true)
	for _, method := range append([]string{"", "get", "Get", "GEt", "gET", "GET ", " GET", "GETS", "GE", "G", "HEAD", "PUT", "POST", "DELETE", "OPTIONS", "GET\x00", "GET\n", "TEG"}, oddTexts...) {
		checkStorable(t, method, nil, r, false)
	}
}

func TestStorableByStatus(t *testing.T) {
	kept := []int64{200, 203, 204, 300, 301, 404, 410}
	for status := int64(-1); status <= 700; status++ {
		r := impl.Response{Status: status, Fields: fieldsOf("cache-control", "max-age=10")}
		checkStorable(t, "GET", nil, r, slices.Contains(kept, status))
		r.Body = "b"
		checkStorable(t, "GET", nil, r, slices.Contains(kept, status) && status != 204)
	}
	for _, status := range []int64{200 + 1<<32, least, greatest, -200} {
		checkStorable(t, "GET", nil, impl.Response{Status: status, Fields: fieldsOf("cache-control", "max-age=10")}, false)
	}
}

func TestStorableByNoStoreAndPrivate(t *testing.T) {
	for _, also := range []string{"max-age=10", "s-maxage=10", "max-age=10, must-revalidate", "max-age=10, no-cache"} {
		for _, asks := range []string{"", "no-cache", "max-age=0", "private", "must-revalidate", "max-stale", "x, no-stores, no-store=1"} {
			for _, flag := range []string{"", ", no-cache", ", x", ", no-store=1", ", private=\"x\"", ", \"private\"", ", privates"} {
				checkStorable(t, "GET", asking(asks), answerOf("cache-control", also+flag), true)
			}
			for _, flag := range []string{", no-store", ", private", ", NO-STORE", ", Private", ", private, no-store"} {
				checkStorable(t, "GET", asking(asks), answerOf("cache-control", also+flag), false)
			}
		}
		for _, asks := range []string{"no-store", "No-Store", "max-age=10, no-store", "no-store, no-cache"} {
			checkStorable(t, "GET", asking(asks), answerOf("cache-control", also), false)
			checkStorable(t, "GET", asking(asks), answerOf("cache-control", also+", no-store"), false)
			checkStorable(t, "GET", asking(asks), answerOf("cache-control", also, "etag", "\"e\"", "expires", dateText(noon)), false)
		}
	}
	for _, texts := range [][]string{{"etag", "\"e\""}, {"expires", dateText(noon)}} {
		checkStorable(t, "GET", nil, answerOf(texts...), true)
		checkStorable(t, "GET", nil, answerOf(append(texts, "Cache-Control", "no-store")...), false)
		checkStorable(t, "GET", nil, answerOf(append(texts, "Cache-Control", "private")...), false)
		checkStorable(t, "GET", fieldsOf("Cache-Control", "no-store"), answerOf(texts...), false)
	}
}

func TestStorableByWhatItIsFreshBy(t *testing.T) {
	for _, texts := range [][]string{
		{"cache-control", "s-maxage=10"}, {"cache-control", "s-maxage=0"}, {"cache-control", "max-age=10"}, {"cache-control", "max-age=0"},
		{"CACHE-CONTROL", "x, MAX-AGE=0"}, {"cache-control", "must-revalidate, max-age=1000000001"}, {"cache-control", "max-age=999999999999999"},
		{"expires", dateText(noon)}, {"expires", dateText(0)}, {"Expires", dateText(lastMoment)}, {"expires", dateText(noon), "date", dateText(noon + 1)},
		{"etag", "\"e\""}, {"ETag", "W/\"e\""}, {"cache-control", "max-age=x", "etag", "\"\""},
	} {
		checkStorable(t, "GET", nil, answerOf(texts...), true)
	}
	for _, texts := range [][]string{
		{}, {"a", "1"}, {"date", dateText(noon)}, {"age", "3"}, {"last-modified", dateText(noon)}, {"cache-control", ""}, {"cache-control", "must-revalidate"},
		{"cache-control", "no-cache"}, {"cache-control", "max-stale"}, {"cache-control", "max-stale=5"}, {"cache-control", "max-age"}, {"cache-control", "max-age=-1"},
		{"cache-control", "s-maxage=x"}, {"cache-control", "max-age=1000000000000000"}, {"expire", dateText(noon)}, {"e-tag", "\"e\""}, {"x-etag", "\"e\"", "x-expires", dateText(noon)},
	} {
		checkStorable(t, "GET", nil, answerOf(texts...), false)
	}
	// An expires that is no Date is a Field all the same; an etag that is no Tag is no Tag.
	for _, text := range notDates {
		checkStorable(t, "GET", nil, answerOf("expires", text), true)
	}
	for _, text := range notTags {
		checkStorable(t, "GET", nil, answerOf("etag", text), false)
		checkStorable(t, "GET", nil, answerOf("etag", text, "expires", "0"), true)
	}
	for _, text := range tagTexts {
		checkStorable(t, "GET", nil, answerOf("etag", text), true)
	}
	// What the request has is nothing that the answer is fresh by.
	checkStorable(t, "GET", fieldsOf("cache-control", "max-age=10", "etag", "\"e\"", "expires", dateText(noon)), answerOf(), false)
}

func TestStorableByAuthorization(t *testing.T) {
	for _, name := range []string{"authorization", "Authorization", "AUTHORIZATION", "aUtHoRiZaTiOn"} {
		for _, value := range []string{"", "x", "basic abc"} {
			asks := fieldsOf("a", "1", name, value)
			for _, control := range []string{"s-maxage=0", "s-maxage=10", "s-maxage=0, max-age=10", "max-age=10, must-revalidate", "MUST-REVALIDATE, max-age=0"} {
				checkStorable(t, "GET", asks, answerOf("cache-control", control), true)
			}
			for _, control := range []string{"max-age=10", "max-age=0", "max-age=10, no-cache", "max-age=10, s-maxage", "max-age=10, must-revalidate=1", "max-age=10, proxy-revalidate", "public, max-age=10"} {
				checkStorable(t, "GET", asks, answerOf("cache-control", control), false)
				checkStorable(t, "GET", fieldsOf("a", "1"), answerOf("cache-control", control), true)
			}
			for _, texts := range [][]string{{"etag", "\"e\""}, {"expires", dateText(noon)}} {
				checkStorable(t, "GET", asks, answerOf(texts...), false)
				checkStorable(t, "GET", asks, answerOf(append(texts, "cache-control", "must-revalidate")...), true)
			}
			checkStorable(t, "GET", asks, answerOf("cache-control", "s-maxage=10, private"), false)
			checkStorable(t, "GET", asks, answerOf("cache-control", "must-revalidate"), false)
			// What asks tells of Shared and Must is not what the answer tells.
			checkStorable(t, "GET", append(slices.Clone(asks), asking("s-maxage=10, must-revalidate")...), answerOf("cache-control", "max-age=10"), false)
		}
	}
	for _, name := range []string{"authorizations", "x-authorization", "proxy-authorization", "authorizatio"} {
		checkStorable(t, "GET", fieldsOf(name, "x"), answerOf("cache-control", "max-age=10"), true)
	}
	// The answer's own authorization is no request's.
	checkStorable(t, "GET", nil, answerOf("cache-control", "max-age=10", "authorization", "x"), true)
}

func TestStorableOfSeveralFieldsWithOneName(t *testing.T) {
	checkStorable(t, "GET", nil, answerOf("cache-control", "max-age=10", "a", "1", "Cache-Control", "no-store"), false)
	checkStorable(t, "GET", nil, answerOf("cache-control", "must-revalidate", "Cache-Control", "max-age=10"), true)
	checkStorable(t, "GET", fieldsOf("cache-control", "max-age=10", "a", "1", "Cache-Control", "no-store"), answerOf("cache-control", "max-age=10"), false)
	checkStorable(t, "GET", fieldsOf("authorization", "x", "Authorization", "y"), answerOf("cache-control", "max-age=10", "cache-control", "must-revalidate"), true)
	checkStorable(t, "GET", fieldsOf("authorization", "x", "Authorization", "y"), answerOf("cache-control", "max-age=10", "cache-control", "x"), false)
	checkStorable(t, "GET", nil, answerOf("etag", "\"a\"", "etag", "\"b\""), false)
	checkStorable(t, "GET", nil, answerOf("expires", dateText(noon), "Expires", dateText(noon)), true)
	// A " in one Field is still open in the next.
	checkStorable(t, "GET", nil, answerOf("cache-control", "max-age=10, x=\"", "cache-control", "no-store, y=\""), true)
	// What they tell together is read as one text: with 400 bytes it is visible, with 401 it is not.
	for size, want := range map[int]bool{386: true, 387: true, 388: true, 389: false, 390: false} {
		checkStorable(t, "GET", nil, answerOf("cache-control", "max-age=10", "cache-control", strings.Repeat("x", size)), want)
	}
}

func TestStorableOfWhatIsNotRight(t *testing.T) {
	r := answerOf("cache-control", "s-maxage=10", "etag", "\"e\"", "expires", dateText(noon))
	for _, asks := range append(someFields(), framedLists()...) {
		checkStorable(t, "GET", asks, r, true)
	}
	for _, asks := range wrongLists() {
		checkStorable(t, "GET", asks, r, false)
	}
	for _, wrong := range wrongResponses() {
		checkStorable(t, "GET", nil, wrong, false)
		if len(wrong.Fields) < 30 {
			wrong.Fields = append(slices.Clone(wrong.Fields), r.Fields[0])
			checkStorable(t, "GET", nil, wrong, false)
		}
	}
}

func checkLifetime(t *testing.T, r impl.Response, want int64) {
	t.Helper()
	if got := impl.Lifetime(r); got != want {
		t.Errorf("Lifetime(%.150q): %d, not %d", fmt.Sprint(r), got, want)
	}
}

func TestLifetimeByControl(t *testing.T) {
	for control, want := range map[string]int64{
		"s-maxage=10": 10, "max-age=10": 10, "s-maxage=5, max-age=10": 5, "max-age=10, s-maxage=5": 5, "s-maxage=10, max-age=5": 10,
		"s-maxage=0, max-age=10": 0, "s-maxage=10, max-age=0": 10, "s-maxage=0": 0, "max-age=0": 0, "s-maxage=x, max-age=7": 7, "s-maxage, max-age=7": 7,
		"max-age=1000000000": second, "max-age=999999999": second - 1, "max-age=1000000001": second, "s-maxage=999999999999999": second,
		"max-age=3, max-age=4": 3, "MAX-AGE=007": 7, "max-stale=9": 0, "no-cache, max-age=10": 10, "no-store, private, must-revalidate, max-age=10": 10, "": 0, "max-age=-1": 0,
	} {
		checkLifetime(t, answerOf("cache-control", control), want)
		checkLifetime(t, answerOf("Cache-Control", control, "age", "2"), want)
		if strings.Contains(control, "-max") || strings.Contains(control, "max-age=1") || strings.Contains(control, "max-age=0") {
			// A number that is told stands ahead of expires, whatever it is.
			checkLifetime(t, answerOf("expires", dateText(noon+100), "date", dateText(noon), "cache-control", control), want)
		}
	}
	checkLifetime(t, answerOf("cache-control", "max-age=10", "cache-control", "s-maxage=5"), 5)
}

func TestLifetimeByDates(t *testing.T) {
	for _, from := range []int64{0, 1, noon, lastMoment - 1, lastMoment} {
		for _, to := range []int64{0, 1, 2, noon - 1, noon, noon + 1, noon + 100, noon + second, noon + second + 1, lastMoment - 1, lastMoment} {
			want := max(0, to-from)
			checkLifetime(t, answerOf("expires", dateText(to), "date", dateText(from)), want)
			checkLifetime(t, answerOf("Date", dateText(from), "a", "1", "EXPIRES", dateText(to), "cache-control", "must-revalidate, max-age=x"), want)
		}
	}
	for _, right := range []string{dateText(noon), dateText(0), dateText(lastMoment)} {
		checkLifetime(t, answerOf("expires", right), 0)
		checkLifetime(t, answerOf("date", right), 0)
		for _, wrong := range notDates {
			checkLifetime(t, answerOf("expires", wrong, "date", right), 0)
			checkLifetime(t, answerOf("expires", right, "date", wrong), 0)
			checkLifetime(t, answerOf("expires", wrong, "date", wrong), 0)
		}
		// Two of them are read as one text, which is no Date.
		checkLifetime(t, answerOf("expires", right, "expires", right, "date", dateText(0)), 0)
		checkLifetime(t, answerOf("date", dateText(0), "expires", right, "date", dateText(0)), 0)
	}
	checkLifetime(t, answerOf(), 0)
}

func TestLifetimeOfResponses(t *testing.T) {
	for _, r := range rightResponses() {
		checkLifetime(t, r, 0)
	}
	for _, r := range wrongResponses() {
		checkLifetime(t, r, -1)
	}
	for status := int64(190); status <= 610; status++ {
		want := int64(10)
		if status < 200 || status > 599 {
			want = -1
		}
		checkLifetime(t, impl.Response{Status: status, Fields: asking("max-age=10")}, want)
	}
}

func checkAge(t *testing.T, o impl.Object, now int64, want int64) {
	t.Helper()
	if got := impl.AgeAt(o, now); got != want {
		t.Errorf("AgeAt(%.150q, %d): %d, not %d", fmt.Sprint(o), now, got, want)
	}
}

func TestAgeAtByNow(t *testing.T) {
	for _, got := range []int64{0, 1, noon, lastMoment - 10} {
		o := objectOf(got, got)
		for _, late := range []int64{0, 1, 2, 9, 10} {
			checkAge(t, o, got+late, late)
		}
		for _, now := range []int64{got - 1, got - 2, -1, -2, least, least + 1, lastMoment + 1, lastMoment + 2, greatest, greatest - 1} {
			checkAge(t, o, now, -1)
		}
	}
	checkAge(t, objectOf(lastMoment, lastMoment), lastMoment, 0)
	checkAge(t, objectOf(lastMoment-5, lastMoment), lastMoment, 5)
	checkAge(t, objectOf(lastMoment, lastMoment), lastMoment+1, -1)
	checkAge(t, objectOf(lastMoment, lastMoment), lastMoment-1, -1)
	checkAge(t, objectOf(0, 0), lastMoment, second)
	checkAge(t, objectOf(0, lastMoment), lastMoment, second)
}

func TestAgeAtByDate(t *testing.T) {
	for late := int64(-5); late <= 5; late++ {
		// Asked is not below Got, so that the date alone makes it older.
		o := objectOf(noon, noon, "Date", dateText(noon-late))
		for since := range int64(4) {
			checkAge(t, o, noon+since, max(0, late)+since)
		}
		checkAge(t, o, noon-1, -1)
	}
	for _, text := range notDates {
		checkAge(t, objectOf(noon, noon, "date", text), noon+3, 3)
		checkAge(t, objectOf(noon-2, noon, "date", text), noon+3, 5)
	}
	checkAge(t, objectOf(noon, noon, "date", dateText(0)), noon, noon)
	checkAge(t, objectOf(noon, noon, "date", dateText(lastMoment)), noon, 0)
	checkAge(t, objectOf(lastMoment, lastMoment, "date", dateText(0)), lastMoment, second)
	checkAge(t, objectOf(noon, noon, "date", dateText(noon-9), "date", dateText(noon-9)), noon, 0)
	// The request's date is none of the answer's.
	o := objectOf(noon, noon)
	o.Fields = fieldsOf("date", dateText(noon-9), "age", "9")
	checkAge(t, o, noon, 0)
}

func TestAgeAtByAge(t *testing.T) {
	for text, told := range map[string]int64{
		"0": 0, "1": 1, "2": 2, "60": 60, "007": 7, "000000000000060": 60, "": 0, "x": 0, "-1": 0, "+1": 0, "1.5": 0, "1 2": 0, "1, 2": 0, "0x10": 0, "\"5\"": 0, "1000000000000000": 0,
		"0000000000000001": 0, "999999999999999": second, "999999999": second - 1, "1000000000": second, "1000000001": second,
	} {
		for _, name := range []string{"age", "Age", "AGE"} {
			checkAge(t, objectOf(noon, noon, name, text), noon, told)
			checkAge(t, objectOf(noon-4, noon, name, text), noon+3, min(told+4+3, second))
		}
	}
	checkAge(t, objectOf(noon, noon, "age", "5", "Age", "5"), noon, 0)
	checkAge(t, objectOf(noon, noon, "ages", "5"), noon, 0)
	checkAge(t, objectOf(0, lastMoment, "age", "999999999999999", "date", dateText(0)), lastMoment, second)
}

// The greater of both counts, not both together.
func TestAgeAtByDateAndAge(t *testing.T) {
	for _, waited := range []int64{0, 1, 3} {
		for _, told := range []int64{0, 2, 5} {
			for late := int64(-2); late <= 10; late++ {
				o := objectOf(noon-waited, noon, "age", strconv.FormatInt(told, 10), "date", dateText(noon-late))
				for _, since := range []int64{0, 1, 100} {
					checkAge(t, o, noon+since, max(late, told+waited)+since)
				}
			}
		}
	}
}

func TestAgeAtAtMostMaxSecond(t *testing.T) {
	for since := int64(0); since <= 5; since++ {
		for told := int64(second - 4); told <= second+2; told++ {
			o := objectOf(noon, noon, "age", strconv.FormatInt(told, 10))
			checkAge(t, o, noon+since, min(told+since, second))
			dated := objectOf(noon+told, noon+told, "date", dateText(noon))
			checkAge(t, dated, noon+told+since, min(told+since, second))
			waiting := objectOf(noon, noon+told)
			checkAge(t, waiting, noon+told+since, min(told+since, second))
			checkAge(t, objectOf(noon, noon), noon+told+since, min(told+since, second))
		}
	}
}

func TestFreshAt(t *testing.T) {
	for _, life := range []int64{0, 1, 2, 10, 60} {
		number := strconv.FormatInt(life, 10)
		for _, texts := range [][]string{
			{"cache-control", "max-age=" + number}, {"cache-control", "s-maxage=" + number + ", max-age=5"},
			{"expires", dateText(noon + life), "date", dateText(noon)},
			{"cache-control", "private, no-store, must-revalidate, max-stale=9, max-age=" + number},
		} {
			o := objectOf(noon, noon, texts...)
			for since := int64(-2); since <= life+3; since++ {
				want := since >= 0 && since < life
				if impl.FreshAt(o, noon+since) != want {
					t.Errorf("FreshAt(%.120q, %d behind Got) is not %v", fmt.Sprint(o.Response), since, want)
				}
				stopped := objectOf(noon, noon, append(slices.Clone(texts), "Cache-Control", "no-cache")...)
				if impl.FreshAt(stopped, noon+since) {
					t.Errorf("FreshAt(%.120q, %d behind Got)", fmt.Sprint(stopped.Response), since)
				}
			}
			for _, now := range []int64{least, -1, lastMoment + 1, greatest} {
				if impl.FreshAt(o, now) {
					t.Errorf("FreshAt at %d", now)
				}
			}
		}
	}
	if impl.FreshAt(objectOf(noon, noon), noon) || impl.FreshAt(objectOf(noon, noon, "etag", "\"e\""), noon) {
		t.Error("FreshAt without a Lifetime")
	}
}

func TestFreshAtAtMaxSecond(t *testing.T) {
	o := objectOf(noon, noon, "cache-control", "max-age=1000000000")
	for since, want := range map[int64]bool{0: true, second - 1: true, second: false, second + 1: false, 2 * second: false} {
		if impl.FreshAt(o, noon+since) != want {
			t.Errorf("FreshAt %d behind Got is not %v", since, want)
		}
	}
	// An age that is at most MaxSecond stays below a Lifetime that is more.
	long := objectOf(noon, noon, "date", dateText(noon), "expires", dateText(noon+second+1))
	for _, since := range []int64{0, second, second + 1, 2 * second, lastMoment - noon} {
		if !impl.FreshAt(long, noon+since) {
			t.Errorf("not FreshAt %d behind Got", since)
		}
	}
	exact := objectOf(noon, noon, "date", dateText(noon), "expires", dateText(noon+second))
	if !impl.FreshAt(exact, noon+second-1) || impl.FreshAt(exact, noon+second) {
		t.Error("FreshAt with a Lifetime of MaxSecond")
	}
}

func checkDecided(t *testing.T, asks []impl.Field, o impl.Object, now int64, want int64) {
	t.Helper()
	if got := impl.Decided(asks, o, now); got != want {
		t.Errorf("Decided(%.80q, %.150q, %d): %d, not %d", asks, fmt.Sprint(o), now, got, want)
	}
}

// checkAgain wants that it is asked for again: DcCheck with a Tag, DcFetch without one.
func checkAgain(t *testing.T, asks []impl.Field, o impl.Object, now int64) {
	t.Helper()
	for _, text := range tagTexts {
		tagged := o
		tagged.Response.Fields = append(slices.Clone(o.Response.Fields), impl.Field{Name: "ETag", Value: text})
		checkDecided(t, asks, tagged, now, impl.DcCheck)
	}
	for _, text := range notTags {
		untagged := o
		untagged.Response.Fields = append(slices.Clone(o.Response.Fields), impl.Field{Name: "ETag", Value: text})
		checkDecided(t, asks, untagged, now, impl.DcFetch)
	}
	checkDecided(t, asks, o, now, impl.DcFetch)
}

func TestDecidedOfWhatIsFresh(t *testing.T) {
	o := objectOf(noon-2, noon, "cache-control", "max-age=10")
	for since := range int64(8) {
		age := since + 2
		for _, control := range []string{"", "x", "max-stale", "max-stale=0", "private", "must-revalidate", "s-maxage=0", "max-age", "max-age=x"} {
			checkDecided(t, asking(control), o, noon+since, impl.DcServe)
		}
		checkDecided(t, nil, o, noon+since, impl.DcServe)
		for most := range int64(15) {
			asks := fieldsOf("a", "1", "Cache-Control", "max-age="+strconv.FormatInt(most, 10))
			if age <= most {
				checkDecided(t, asks, o, noon+since, impl.DcServe)
			} else {
				checkAgain(t, asks, o, noon+since)
				// A Stale that is asked for does not help where the age itself is above MaxAge.
				checkAgain(t, append(slices.Clone(asks), asking("max-stale")...), o, noon+since)
			}
		}
		for _, control := range []string{"no-cache", "no-store", "No-Cache, No-Store", "no-cache, max-age=100", "no-store, max-age=100", "no-cache, max-stale", "no-store, max-stale"} {
			checkAgain(t, asking(control), o, noon+since)
		}
	}
	// Must and a Tag of what is fresh change nothing.
	for _, control := range []string{"max-age=10, must-revalidate", "max-age=10, no-store", "max-age=10, private"} {
		checkDecided(t, nil, objectOf(noon, noon, "cache-control", control, "etag", "\"e\""), noon+9, impl.DcServe)
	}
}

func TestDecidedOfWhatIsOver(t *testing.T) {
	for _, texts := range [][]string{{"cache-control", "max-age=10"}, {"expires", dateText(noon + 10), "date", dateText(noon)}} {
		o := objectOf(noon, noon, texts...)
		for over := range int64(6) {
			now := noon + 10 + over
			for _, control := range []string{"", "x", "max-stale=x", "max-stale=-1", "max-age=100", "no-store"} {
				checkAgain(t, asking(control), o, now)
			}
			checkAgain(t, nil, o, now)
			for stale := range int64(8) {
				asks := asking("max-stale=" + strconv.FormatInt(stale, 10))
				if over <= stale {
					checkDecided(t, asks, o, now, impl.DcServe)
				} else {
					checkAgain(t, asks, o, now)
				}
			}
			checkDecided(t, asking("Max-Stale"), o, now, impl.DcServe)
			checkDecided(t, asking("max-stale, private, must-revalidate"), o, now, impl.DcServe)
			checkAgain(t, asking("max-stale, no-cache"), o, now)
			// MaxAge as before: the age itself is asked.
			checkAgain(t, asking("max-stale, max-age="+strconv.FormatInt(9+over, 10)), o, now)
			checkDecided(t, asking("max-stale, max-age="+strconv.FormatInt(10+over, 10)), o, now, impl.DcServe)
			checkDecided(t, asking("max-stale, max-age="+strconv.FormatInt(11+over, 10)), o, now, impl.DcServe)
		}
	}
	checkDecided(t, asking("max-stale=0"), objectOf(noon, noon), noon, impl.DcServe)
	checkDecided(t, asking("max-stale"), objectOf(noon, noon), lastMoment, impl.DcServe)
	checkDecided(t, asking("max-stale=999999999"), objectOf(noon, noon), lastMoment, impl.DcFetch)
	checkDecided(t, asking("max-stale=1000000000"), objectOf(noon, noon), lastMoment, impl.DcServe)
}

// With what is over, the document asks NoCache and MaxAge as before; it does not name NoStore.
func TestDecidedOfWhatIsOverWithNoStore(t *testing.T) {
	o := objectOf(noon, noon, "cache-control", "max-age=10")
	checkDecided(t, asking("no-store, max-stale=5"), o, noon+15, impl.DcServe)
	checkAgain(t, asking("no-store, max-stale=5"), o, noon+16)
	checkAgain(t, asking("no-store, no-cache, max-stale=5"), o, noon+15)
	checkAgain(t, asking("no-store, max-stale=5"), o, noon+9)
}

func TestDecidedByWhatTheObjectTells(t *testing.T) {
	for _, control := range []string{"max-age=10, must-revalidate", "must-revalidate", "max-age=10, no-cache", "no-cache", "max-age=10, no-cache, must-revalidate"} {
		o := objectOf(noon, noon, "cache-control", control)
		for _, asks := range []string{"", "max-stale", "max-stale=100", "max-stale, max-age=100"} {
			for _, since := range []int64{10, 11, 100} {
				checkAgain(t, asking(asks), o, noon+since)
			}
			if strings.Contains(control, "no-cache") {
				checkAgain(t, asking(asks), o, noon)
			}
		}
	}
	for _, control := range []string{"max-age=10, private", "max-age=10, no-store", "max-age=10, max-stale=0"} {
		checkDecided(t, asking("max-stale=5"), objectOf(noon, noon, "cache-control", control), noon+15, impl.DcServe)
	}
	// A Stale of the Object itself is none that is asked for.
	checkAgain(t, nil, objectOf(noon, noon, "cache-control", "max-age=10, max-stale"), noon+10)
	// What asks has for a Tag is none of the Object's.
	checkDecided(t, fieldsOf("etag", "\"e\"", "if-none-match", "\"e\""), objectOf(noon, noon), noon, impl.DcFetch)
	// Any right Status may be kept, and is decided alike.
	for _, status := range []int64{200, 204, 206, 304, 404, 500, 599} {
		o := impl.Object{Response: impl.Response{Status: status, Fields: asking("max-age=10")}}
		checkDecided(t, nil, o, 9, impl.DcServe)
		checkAgain(t, nil, o, 10)
	}
}

func TestDecidedOfWhatIsNotRight(t *testing.T) {
	o := objectOf(noon, noon, "cache-control", "max-age=10", "etag", "\"e\"")
	for _, asks := range append(someFields(), framedLists()...) {
		checkDecided(t, asks, o, noon, impl.DcServe)
	}
	for _, asks := range wrongLists() {
		checkDecided(t, asks, o, noon, 0)
		checkDecided(t, asks, o, noon+100, 0)
	}
	for _, now := range []int64{least, least + 1, -noon, -1, noon - 1, 0, lastMoment + 1, greatest - 1, greatest} {
		checkDecided(t, nil, o, now, 0)
		checkDecided(t, asking("max-stale"), o, now, 0)
	}
	checkDecided(t, nil, o, lastMoment, impl.DcCheck)
	for _, wrong := range wrongObjects() {
		for _, now := range []int64{0, noon, noon + 5, lastMoment, greatest, least} {
			checkDecided(t, asking("max-stale"), wrong, now, 0)
			checkAge(t, wrong, now, -1)
			if impl.FreshAt(wrong, now) {
				t.Errorf("FreshAt(%.100q)", fmt.Sprint(wrong))
			}
		}
	}
}

// sameAnswer is a Response that tells that nothing changed, with names and values in turn.
func sameAnswer(texts ...string) impl.Response {
	return impl.Response{Status: 304, Fields: fieldsOf(texts...)}
}

func checkRenewed(t *testing.T, o impl.Object, r impl.Response, want ...string) {
	t.Helper()
	renewed := o
	renewed.Response.Fields, renewed.Asked, renewed.Got = fieldsOf(want...), noon+50, noon+51
	got, is := impl.Renewed(o, r, noon+50, noon+51)
	if !is || !sameObject(got, renewed) {
		t.Errorf("Renewed(%.150q, %.100q): %.150q, %v", fmt.Sprint(o), fmt.Sprint(r), fmt.Sprint(got), is)
	}
}

func checkNotRenewed(t *testing.T, o impl.Object, r impl.Response, asked, got int64) {
	t.Helper()
	if renewed, is := impl.Renewed(o, r, asked, got); is || !sameObject(renewed, impl.Object{}) {
		t.Errorf("Renewed(%.150q, %.100q, %d, %d): %.150q, %v", fmt.Sprint(o), fmt.Sprint(r), asked, got, fmt.Sprint(renewed), is)
	}
}

func TestRenewedFields(t *testing.T) {
	o := objectOf(noon, noon+3, "a", "1", "b", "2", "A", "3", "c", "4")
	checkRenewed(t, o, sameAnswer(), "a", "1", "b", "2", "A", "3", "c", "4")
	checkRenewed(t, o, sameAnswer("d", "9"), "a", "1", "b", "2", "A", "3", "c", "4", "d", "9")
	checkRenewed(t, o, sameAnswer("b", "9"), "a", "1", "A", "3", "c", "4", "b", "9")
	checkRenewed(t, o, sameAnswer("B", "9"), "a", "1", "A", "3", "c", "4", "B", "9")
	checkRenewed(t, o, sameAnswer("a", "9"), "b", "2", "c", "4", "a", "9")
	checkRenewed(t, o, sameAnswer("A", ""), "b", "2", "c", "4", "A", "")
	checkRenewed(t, o, sameAnswer("c", "4"), "a", "1", "b", "2", "A", "3", "c", "4")
	checkRenewed(t, o, sameAnswer("c", "9", "a", "8", "d", "7"), "b", "2", "c", "9", "a", "8", "d", "7")
	// Each in turn: what comes twice is there but once, with what came last.
	checkRenewed(t, o, sameAnswer("d", "8", "d", "9"), "a", "1", "b", "2", "A", "3", "c", "4", "d", "9")
	checkRenewed(t, o, sameAnswer("a", "8", "d", "7", "A", "9"), "b", "2", "c", "4", "d", "7", "A", "9")
	checkRenewed(t, o, sameAnswer("b", "8", "c", "7", "b", "8"), "a", "1", "A", "3", "c", "7", "b", "8")
	checkRenewed(t, objectOf(noon, noon), sameAnswer())
	checkRenewed(t, objectOf(noon, noon), sameAnswer("a", "1"), "a", "1")
	// The request's Fields stay, also those with such a name.
	checkRenewed(t, objectOf(noon, noon), sameAnswer("host", "x"), "host", "x")
}

func TestRenewedByStatus(t *testing.T) {
	o := objectOf(noon, noon+3, "a", "1")
	for status := int64(190); status <= 610; status++ {
		if status != 304 {
			checkNotRenewed(t, o, impl.Response{Status: status}, noon+50, noon+51)
			checkNotRenewed(t, o, impl.Response{Status: status, Fields: fieldsOf("a", "2")}, noon+50, noon+51)
		}
		kept := o
		kept.Response = impl.Response{Status: status, Fields: fieldsOf("a", "1")}
		if status >= 200 && status <= 599 {
			checkRenewed(t, kept, sameAnswer("a", "2"), "a", "2")
		} else {
			checkNotRenewed(t, kept, sameAnswer("a", "2"), noon+50, noon+51)
		}
	}
	checkNotRenewed(t, o, impl.Response{Status: 304, Body: "b"}, noon+50, noon+51)
}

func TestRenewedByMoments(t *testing.T) {
	o := objectOf(noon, noon+3, "a", "1")
	moments := []int64{least, least + 1, -2, -1, 0, 1, noon, noon + 1, noon + 2, noon + 3, lastMoment - 1, lastMoment, lastMoment + 1, 1 << 62, greatest}
	for _, asked := range moments {
		for _, got := range moments {
			if asked < 0 || got > 253402300799 || asked > got {
				checkNotRenewed(t, o, sameAnswer("a", "2"), asked, got)
				continue
			}
			renewed, is := impl.Renewed(o, sameAnswer("a", "2"), asked, got)
			want := objectOf(asked, got, "a", "2")
			if !is || !sameObject(renewed, want) {
				t.Errorf("Renewed at %d, %d: %+v, %v", asked, got, renewed, is)
			}
		}
	}
}

func TestRenewedAtTheLimits(t *testing.T) {
	for have := 25; have <= 30; have++ {
		o := objectOf(noon, noon)
		o.Response.Fields = manyFields(have)
		for more := range 8 {
			r := sameAnswer()
			for i := range more {
				r.Fields = append(r.Fields, impl.Field{Name: "m" + strconv.Itoa(i), Value: "w"})
			}
			renewed, is := impl.Renewed(o, r, noon+50, noon+51)
			if is != (have+more <= 30) || is && !slices.Equal(renewed.Response.Fields, append(manyFields(have), r.Fields...)) || !is && !sameObject(renewed, impl.Object{}) {
				t.Errorf("%d Fields and %d more: %d, %v", have, more, len(renewed.Response.Fields), is)
			}
			// With names that are there already, it has no more than before.
			again := sameAnswer()
			again.Fields = slices.Clone(o.Response.Fields[:more])
			if renewed, is := impl.Renewed(o, again, noon, noon); !is || len(renewed.Response.Fields) != have {
				t.Errorf("%d Fields and %d of them: %d, %v", have, more, len(renewed.Response.Fields), is)
			}
		}
	}
	full := objectOf(noon, noon)
	full.Response.Fields = manyFields(30)
	r := sameAnswer()
	r.Fields = manyFields(30)
	if renewed, is := impl.Renewed(full, r, noon, noon); !is || !slices.Equal(renewed.Response.Fields, manyFields(30)) {
		t.Errorf("30 Fields in the place of 30: %q, %v", renewed.Response.Fields, is)
	}
	r.Fields[29].Name = "other"
	checkNotRenewed(t, full, r, noon, noon)
	if renewed, is := impl.Renewed(objectOf(noon, noon), r, noon, noon); !is || !slices.Equal(renewed.Response.Fields, r.Fields) {
		t.Errorf("30 Fields in the place of none: %q, %v", renewed.Response.Fields, is)
	}
	// It is asked how many there are in the end, not on the way.
	full.Response.Fields[0].Name = "n29"
	renewed, is := impl.Renewed(full, sameAnswer("new", "1", "n29", "2"), noon, noon)
	if want := append(manyFields(29)[1:], fieldsOf("new", "1", "n29", "2")...); !is || !slices.Equal(renewed.Response.Fields, want) {
		t.Errorf("one Field more, then one in the place of two: %q, %v", renewed.Response.Fields, is)
	}
	checkNotRenewed(t, full, sameAnswer("new", "1"), noon, noon)
}

func TestRenewedOfWhatIsNotRight(t *testing.T) {
	for _, o := range wrongObjects() {
		checkNotRenewed(t, o, sameAnswer("a", "2"), noon+50, noon+51)
		checkNotRenewed(t, o, sameAnswer(), noon+50, noon+51)
	}
	o := objectOf(noon, noon, "a", "1")
	for _, r := range wrongResponses() {
		checkNotRenewed(t, o, r, noon+50, noon+51)
	}
	for _, list := range append(wrongLists(), framedLists()...) {
		checkNotRenewed(t, o, impl.Response{Status: 304, Fields: list}, noon+50, noon+51)
	}
}

func TestRenewedIsFreshAgain(t *testing.T) {
	o := objectOf(noon, noon, "cache-control", "max-age=10", "age", "3", "date", dateText(noon), "etag", "\"e\"")
	if impl.FreshAt(o, noon+20) || impl.Decided(nil, o, noon+20) != impl.DcCheck {
		t.Fatal("it is not over")
	}
	renewed, is := impl.Renewed(o, sameAnswer("Age", "1", "Date", dateText(noon+20), "Cache-Control", "max-age=5"), noon+20, noon+21)
	if !is || impl.AgeAt(renewed, noon+21) != 2 || impl.Lifetime(renewed.Response) != 5 || !impl.FreshAt(renewed, noon+23) || impl.FreshAt(renewed, noon+24) || impl.Decided(nil, renewed, noon+23) != impl.DcServe {
		t.Errorf("%+v, %v", renewed, is)
	}
}

// policyValues are what the Fields have that the chapter asks for, among them what is not as it wants it.
func policyValues() map[string][]string {
	dates := []string{dateText(noon - 5), dateText(noon), dateText(noon + 5), dateText(noon + 12), dateText(0), dateText(lastMoment), "0", ""}
	controls := []string{"max-age=10", "max-age=0", "s-maxage=7", "s-maxage=0", "no-cache", "no-store", "private", "must-revalidate", "max-stale=5", "max-stale", "max-age=10, s-maxage=4", "max-age=20, must-revalidate", "max-age=x", "", "max-age=1000000000", "x=\""}
	return map[string][]string{
		"cache-control": controls,
		"expires":       dates,
		"date":          dates,
		"age":           {"0", "3", "007", "x", "", "999999999999999", "999999998"},
		"etag":          append(slices.Clone(tagTexts), notTags...),
		"authorization": {"", "x"},
		"a":             {"1", "2"},
	}
}

// mixedPolicyFields are FieldsOk, but for one in many, and the same for one source.
func mixedPolicyFields(source *rand.Rand, most int) []impl.Field {
	values := policyValues()
	names := []string{"cache-control", "cache-control", "expires", "date", "age", "etag", "authorization", "a"}
	list := []impl.Field{}
	for range source.Intn(most + 1) {
		name := names[source.Intn(len(names))]
		value := values[name][source.Intn(len(values[name]))]
		switch source.Intn(3) {
		case 1:
			name = inCapitals(name)
		case 2:
			name = inBoth(name)
		}
		list = append(list, impl.Field{Name: name, Value: value})
	}
	if source.Intn(60) == 0 {
		list = append(list, impl.Field{Name: "b", Value: " "})
	}
	return list
}

func mixedAnswer(source *rand.Rand) impl.Response {
	statuses := []int64{200, 200, 200, 203, 204, 300, 301, 304, 404, 410, 206, 500, 199}
	return impl.Response{Status: statuses[source.Intn(len(statuses))], Fields: mixedPolicyFields(source, 6)}
}

func TestMixedPolicies(t *testing.T) {
	source := rand.New(rand.NewSource(10))
	methods := []string{"GET", "GET", "GET", "PUT", "get"}
	told := map[string]int{}
	for range 30000 {
		asks, r := mixedPolicyFields(source, 3), mixedAnswer(source)
		asked := noon - source.Int63n(4)
		o := impl.Object{Key: "h/a", Response: r, Asked: asked, Got: asked + source.Int63n(4), Epoch: source.Int63n(3)}
		if source.Intn(60) == 0 {
			o.Got = asked - 1
		}
		now := o.Got - 1 + source.Int63n(25)
		method := methods[source.Intn(len(methods))]
		storable, life, age, fresh, decided := impl.Storable(method, asks, r), impl.Lifetime(r), impl.AgeAt(o, now), impl.FreshAt(o, now), impl.Decided(asks, o, now)
		if storable != plainStorable(method, asks, r) || life != plainLifetime(r) || age != plainAgeAt(o, now) || fresh != plainFreshAt(o, now) || decided != plainDecided(asks, o, now) || impl.ObjectOk(o) != plainObjectOk(o) {
			t.Fatalf("%q, %q, %+v, %d: Storable %v, Lifetime %d, AgeAt %d, FreshAt %v, Decided %d", method, asks, o, now, storable, life, age, fresh, decided)
		}
		newer := impl.Response{Status: 304, Fields: mixedPolicyFields(source, 6)}
		renewed, is := impl.Renewed(o, newer, now, now+1)
		if want, too := plainRenewed(o, newer, now, now+1); is != too || !sameObject(renewed, want) {
			t.Fatalf("Renewed(%+v, %+v): %+v, %v", o, newer, renewed, is)
		}
		told[fmt.Sprint("storable ", storable)]++
		told[fmt.Sprint("fresh ", fresh)]++
		told[fmt.Sprint("decided ", decided)]++
		told[fmt.Sprint("renewed ", is)]++
	}
	for _, kind := range []string{"storable true", "storable false", "fresh true", "fresh false", "decided 0", "decided 1", "decided 2", "decided 3", "renewed true", "renewed false"} {
		if told[kind] < 250 {
			t.Errorf("%s: %d times only", kind, told[kind])
		}
	}
}

// agingObjects are right, and of many ages and Lifetimes.
func agingObjects() []impl.Object {
	objects := []impl.Object{}
	source := rand.New(rand.NewSource(11))
	for range 1500 {
		r := mixedAnswer(source)
		asked := noon - source.Int63n(4)
		o := impl.Object{Key: "k", Response: r, Asked: asked, Got: asked + source.Int63n(4)}
		if impl.ObjectOk(o) {
			objects = append(objects, o)
		}
	}
	for told := int64(second - 30); told <= second; told += 7 {
		number := strconv.FormatInt(told, 10)
		objects = append(objects, objectOf(noon, noon, "age", number, "cache-control", "max-age=1000000000"), objectOf(noon, noon+told, "cache-control", "max-age=1000000000"), objectOf(lastMoment-20, lastMoment-20, "age", number, "cache-control", "max-age=999999995"))
	}
	return objects
}

// What is fresh gets older second by second, and once it is not fresh it is not any more.
func TestOlderSecondBySecond(t *testing.T) {
	ended := 0
	for _, o := range agingObjects() {
		fresh, age := impl.FreshAt(o, o.Got), impl.AgeAt(o, o.Got)
		for now := o.Got + 1; now <= min(o.Got+40, lastMoment); now++ {
			older, still := impl.AgeAt(o, now), impl.FreshAt(o, now)
			if older != min(age+1, second) {
				t.Fatalf("AgeAt(%+v, %d) is %d, one second before it was %d", o, now, older, age)
			}
			if still && !fresh {
				t.Fatalf("FreshAt(%+v, %d), but not one second before", o, now)
			}
			if fresh && !still {
				ended++
			}
			fresh, age = still, older
		}
	}
	if ended < 150 {
		t.Errorf("%d only were fresh and then not any more", ended)
	}
}

// What is served without a Stale is fresh, and what is not served once is not served later.
func TestServedSecondBySecond(t *testing.T) {
	for i, o := range agingObjects() {
		for _, control := range []string{"", "max-age=8", "max-stale=5", "max-stale", "max-stale=5, max-age=12", "no-cache", "no-store"} {
			if i%7 != 0 && control != "" {
				continue
			}
			asks, served := asking(control), true
			for now := o.Got; now <= min(o.Got+40, lastMoment); now++ {
				decided := impl.Decided(asks, o, now)
				if decided == impl.DcServe && !served {
					t.Fatalf("Decided(%q, %+v, %d) is to serve it, but not one second before", control, o, now)
				}
				if control == "" && (decided == impl.DcServe) != impl.FreshAt(o, now) {
					t.Fatalf("Decided(%+v, %d): %d", o, now, decided)
				}
				served = decided == impl.DcServe
			}
		}
	}
}

func roomyResponse(r impl.Response) impl.Response {
	return impl.Response{Status: r.Status, Fields: roomy(r.Fields), Body: strings.Clone(r.Body)}
}

func roomyObject(o impl.Object) impl.Object {
	return impl.Object{Key: strings.Clone(o.Key), Fields: roomy(o.Fields), Response: roomyResponse(o.Response), Asked: o.Asked, Got: o.Got, Epoch: o.Epoch}
}

// allTexts are those of an Object, with what stands in the room behind its lists.
func allTexts(o impl.Object) []string {
	texts := append(textsIn(o.Fields[:cap(o.Fields)]), textsIn(o.Response.Fields[:cap(o.Response.Fields)])...)
	return append(texts, o.Key, o.Response.Body)
}

func TestPolicyArgumentsStay(t *testing.T) {
	objects := append(wrongObjects(), agingObjects()[:50]...)
	for _, given := range append(objects, objectOf(noon, noon+3, "cache-control", "max-age=10", "a", "1", "A", "2", "etag", "\"e\"")) {
		o := roomyObject(given)
		r := roomyResponse(sameAnswer("a", "9", "new", "8", "A", "7"))
		asks := roomy(fieldsOf("Cache-Control", "Max-Age=5, max-stale", "Authorization", "x"))
		before := [][]impl.Field{deepFields(o.Fields[:cap(o.Fields)]), deepFields(o.Response.Fields[:cap(o.Response.Fields)]), deepFields(r.Fields[:cap(r.Fields)]), deepFields(asks[:cap(asks)])}
		impl.ObjectOk(o)
		impl.Storable("GET", asks, o.Response)
		impl.Lifetime(o.Response)
		impl.AgeAt(o, noon+5)
		impl.FreshAt(o, noon+5)
		impl.Decided(asks, o, noon+5)
		renewed, _ := impl.Renewed(o, r, noon+5, noon+6)
		for _, list := range [][]impl.Field{renewed.Fields, renewed.Response.Fields} {
			for i := range list {
				list[i] = impl.Field{Name: "written", Value: "into"}
			}
			_ = append(list, impl.Field{Name: "written", Value: "behind"})
		}
		for i, list := range [][]impl.Field{o.Fields, o.Response.Fields, r.Fields, asks} {
			if !slices.Equal(list[:cap(list)], before[i]) {
				t.Fatalf("%.80q became %.80q", before[i], list[:cap(list)])
			}
		}
		if !sameObject(o, given) {
			t.Fatalf("%.80q became %.80q", fmt.Sprint(given), fmt.Sprint(o))
		}
	}
}

func TestRenewedIsNewMemory(t *testing.T) {
	full := objectOf(noon, noon)
	full.Fields, full.Response.Fields = manyFields(30), manyFields(28)
	for _, given := range []impl.Object{objectOf(noon, noon, "name", "value", "other", "text"), full} {
		for _, newer := range []impl.Response{sameAnswer(), sameAnswer("new", "field"), sameAnswer("name", "again", "Name", "once more"), sameAnswer("n3", "again", "new", "field")} {
			o, r := roomyObject(given), roomyResponse(newer)
			first, is := impl.Renewed(o, r, noon+5, noon+6)
			second, _ := impl.Renewed(o, r, noon+5, noon+6)
			if !is || !sameObject(first, second) {
				t.Fatalf("%+v, %v", first, is)
			}
			lists := [][]impl.Field{first.Fields, first.Response.Fields, second.Fields, second.Response.Fields, o.Fields, o.Response.Fields, r.Fields}
			for i := range lists {
				for j := range i {
					if listsShare(lists[i], lists[j]) {
						t.Errorf("lists %d and %d share memory", i, j)
					}
				}
			}
			for _, text := range allTexts(first) {
				for _, given := range append(allTexts(o), textsIn(r.Fields)...) {
					if sharesMemory(text, given) {
						t.Errorf("%q shares memory with an argument", text)
					}
				}
			}
			if cap(first.Fields) != len(first.Fields) || cap(first.Response.Fields) != len(first.Response.Fields) {
				t.Error("there is room behind a list of Renewed")
			}
		}
	}
}

// Each function answers, the same twice, whatever it is given.
func TestPolicyFunctionsAnswerAtEveryArgument(t *testing.T) {
	numbers := []int64{least, least + 1, -second, -1, 0, 1, noon, second, second + 1, lastMoment, lastMoment + 1, greatest - 1, greatest}
	lists := [][]impl.Field{nil, manyFields(30), manyFields(31), make([]impl.Field, 5), manyFields(10000), fieldsOf("cache-control", strings.Repeat("max-age=5,", 40)), fieldsOf("cache-control", strings.Repeat("\"", 400)), fieldsOf("cache-control", strings.Repeat("x", 100000))}
	for i := range lists {
		for j, number := range numbers {
			for _, other := range numbers {
				o := impl.Object{Key: "k", Fields: lists[(i+j)%len(lists)], Response: impl.Response{Status: 200, Fields: lists[i]}, Asked: number, Got: other, Epoch: max(-1, min(number, 5))}
				tell := func() string {
					renewed, is := impl.Renewed(o, impl.Response{Status: 304, Fields: lists[j%len(lists)]}, other, number)
					return fmt.Sprint(impl.ObjectOk(o), impl.Storable("GET", o.Fields, o.Response), impl.Lifetime(o.Response), impl.AgeAt(o, other), impl.AgeAt(o, number), impl.FreshAt(o, other), impl.Decided(o.Fields, o, other), renewed, is)
				}
				want, is := plainRenewed(o, impl.Response{Status: 304, Fields: lists[j%len(lists)]}, other, number)
				if !is {
					want = impl.Object{}
				} else {
					want.Fields, want.Response.Fields = append([]impl.Field{}, want.Fields...), append([]impl.Field{}, want.Response.Fields...)
				}
				plain := fmt.Sprint(plainObjectOk(o), plainStorable("GET", o.Fields, o.Response), plainLifetime(o.Response), plainAgeAt(o, other), plainAgeAt(o, number), plainFreshAt(o, other), plainDecided(o.Fields, o, other), want, is)
				if first, second := tell(), tell(); first != plain || second != plain {
					t.Fatalf("list %d, numbers %d and %d: %.300q, %.300q, not %.300q", i, number, other, first, second, plain)
				}
			}
		}
	}
	for _, text := range append(append(hugeTexts(), oddTexts...), mixedTexts(500, 60)...) {
		list := fieldsOf(text, text, "cache-control", text)
		o := impl.Object{Key: text, Fields: list, Response: impl.Response{Status: int64(len(text)), Fields: list, Body: text}, Asked: int64(len(text))}
		if impl.ObjectOk(o) || impl.Storable(text, list, o.Response) || impl.Lifetime(o.Response) != -1 || impl.AgeAt(o, noon) != -1 || impl.FreshAt(o, noon) || impl.Decided(list, o, noon) != 0 {
			t.Fatalf("%.60q is taken", text)
		}
		checkNotRenewed(t, o, o.Response, noon, noon)
		right, newer := objectOf(noon, noon), impl.Response{Status: 304, Fields: list}
		renewed, is := impl.Renewed(right, newer, noon, noon)
		if want, too := plainRenewed(right, newer, noon, noon); is != too || !sameObject(renewed, want) {
			t.Fatalf("Renewed by %.60q: %.150q, %v", text, fmt.Sprint(renewed), is)
		}
	}
}
