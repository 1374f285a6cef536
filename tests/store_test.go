package tests

import (
	"fmt"
	"math/rand"
	"regexp"
	"slices"
	"strconv"
	"strings"
	"testing"
	"unsafe"

	"loop.example/g00207/impl"
)

// storedOf is a right Object with this Key and Body, asked with these names and values in turn.
func storedOf(key, body string, asks ...string) impl.Object {
	return impl.Object{Key: key, Fields: fieldsOf(asks...), Response: impl.Response{Status: 200, Fields: fieldsOf("age", "1"), Body: body}, Asked: 1, Got: 2, Epoch: 3}
}

// plainShowObject and its kin tell the functions of the chapter once more.
func plainShowObject(o impl.Object) string {
	if !plainObjectOk(o) {
		return ""
	}
	shown := fmt.Sprintf("%s\n%d %d %d\n%d %d %d %d\n", o.Key, o.Asked, o.Got, o.Epoch, len(o.Fields), o.Response.Status, len(o.Response.Fields), len(o.Response.Body))
	for _, field := range slices.Concat(o.Fields, o.Response.Fields) {
		shown += fmt.Sprintf("%s: %s\r\n", field.Name, field.Value)
	}
	return shown + fmt.Sprintln(o.Response.Body)
}

var (
	objectHead = regexp.MustCompile(`^([!-~]*)\n(0|[1-9][0-9]{0,11}) (0|[1-9][0-9]{0,11}) (0|[1-9][0-9]{0,5})\n(0|[1-9][0-9]?) ([1-9][0-9]{2}) (0|[1-9][0-9]?) (0|[1-9][0-9]{0,3})\n`)
	fieldHead  = regexp.MustCompile("^([!#$%&'*+.^_|~`0-9A-Za-z-]+): ([\\t -~]*)\r\n")
	recordHead = regexp.MustCompile(`^(0|[1-9][0-9]{0,3}) (0|[1-9][0-9]{0,9})\n`)
)

func numberIn(digits string) int64 {
	number, _ := strconv.ParseInt(digits, 10, 64)
	return number
}

func plainFieldRows(text string, count int64) ([]impl.Field, string, bool) {
	var list []impl.Field
	for range count {
		row := fieldHead.FindStringSubmatch(text)
		if row == nil {
			return nil, "", false
		}
		list, text = append(list, impl.Field{Name: row[1], Value: row[2]}), text[len(row[0]):]
	}
	return list, text, true
}

func plainReadObject(text string) (impl.Object, int64, bool) {
	head := objectHead.FindStringSubmatch(text)
	if head == nil {
		return impl.Object{}, 0, false
	}
	asks, behindAsks, is := plainFieldRows(text[len(head[0]):], numberIn(head[5]))
	told, rest, too := plainFieldRows(behindAsks, numberIn(head[7]))
	size := int(numberIn(head[8]))
	if !is || !too || len(rest) < size+1 || rest[size] != 10 {
		return impl.Object{}, 0, false
	}
	o := impl.Object{Key: head[1], Fields: asks, Response: impl.Response{Status: numberIn(head[6]), Fields: told, Body: rest[:size]}, Asked: numberIn(head[2]), Got: numberIn(head[3]), Epoch: numberIn(head[4])}
	if !plainObjectOk(o) {
		return impl.Object{}, 0, false
	}
	return o, int64(len(text) - len(rest) + size + 1), true
}

func plainRecord(text string) string {
	if len(text) >= 9001 {
		return ""
	}
	return fmt.Sprintf("%d %d\n%s\n", len(text), quickHash(text), text)
}

func plainRecords(disk string) ([]string, int64) {
	var texts []string
	rest := disk
	for {
		head := recordHead.FindStringSubmatch(rest)
		if head == nil {
			break
		}
		from, size := len(head[0]), int(numberIn(head[1]))
		if size > 9000 || len(rest) < from+size+1 || rest[from+size] != 10 || quickHash(rest[from:from+size]) != numberIn(head[2]) {
			break
		}
		texts, rest = append(texts, rest[from:from+size]), rest[from+size+1:]
	}
	return texts, int64(len(disk) - len(rest))
}

func plainLoaded(disk string) ([]impl.Object, []string, int64) {
	texts, _ := plainRecords(disk)
	var objects []impl.Object
	var log []string
	taken := 0
	for _, text := range texts {
		o, took, isObject := plainReadObject(text)
		p, isPurge := plainReadPurge(text)
		switch {
		case isObject && took == int64(len(text)):
			at := slices.IndexFunc(objects, func(other impl.Object) bool {
				return other.Key == o.Key && slices.Equal(other.Fields, o.Fields)
			})
			if at < 0 {
				objects = append(objects, o)
			} else {
				objects[at] = o
			}
		case isPurge && len(log) < 60:
			log = append(log, text)
			objects = slices.DeleteFunc(objects, func(other impl.Object) bool { return plainHits(p, other) })
		default:
			return objects, log, int64(taken)
		}
		taken += len(plainRecord(text))
	}
	return objects, log, int64(taken)
}

func diskOf(texts ...string) string {
	disk := ""
	for _, text := range texts {
		disk += plainRecord(text)
	}
	return disk
}

func isZeroObject(o impl.Object) bool {
	return sameObject(o, impl.Object{})
}

func checkNoObject(t *testing.T, text string) {
	t.Helper()
	if o, took, is := impl.ReadObject(text); is || took != 0 || !isZeroObject(o) {
		t.Errorf("ReadObject(%.300q) of %d bytes: %.200q, %d, %v", text, len(text), fmt.Sprint(o), took, is)
	}
}

func checkObject(t *testing.T, text string, want impl.Object, took int) {
	t.Helper()
	if o, n, is := impl.ReadObject(text); !is || n != int64(took) || !sameObject(o, want) {
		t.Errorf("ReadObject(%.300q) of %d bytes: %.200q, %d, %v, not %.200q, %d", text, len(text), fmt.Sprint(o), n, is, fmt.Sprint(want), took)
	}
}

// checkObjectAsTold asks what plainReadObject tells.
func checkObjectAsTold(t *testing.T, text string) bool {
	t.Helper()
	want, took, is := plainReadObject(text)
	if is {
		checkObject(t, text, want, int(took))
	} else {
		checkNoObject(t, text)
	}
	return is
}

// checkShownObject goes both ways, with nothing behind it and with much.
func checkShownObject(t *testing.T, o impl.Object, want string) {
	t.Helper()
	shown := impl.ShowObject(o)
	if shown != want {
		t.Errorf("ShowObject(%.300q): %.300q, not %.300q", fmt.Sprint(o), shown, want)
		return
	}
	for _, behind := range []string{"", "\n", "x", want, "\r\n", " "} {
		checkObject(t, want+behind, o, len(want))
	}
	checkNoObject(t, want[:len(want)-1])
}

func checkNotShown(t *testing.T, o impl.Object) {
	t.Helper()
	if shown := impl.ShowObject(o); shown != "" {
		t.Errorf("ShowObject(%.300q): %.300q", fmt.Sprint(o), shown)
	}
}

func checkRecords(t *testing.T, disk string, took int, want ...string) {
	t.Helper()
	if texts, n := impl.Records(disk); n != int64(took) || !slices.Equal(texts, want) {
		t.Errorf("Records(%.200q) of %d bytes: %.200q, %d, not %.200q, %d", disk, len(disk), texts, n, want, took)
	}
}

func checkRecordsAsTold(t *testing.T, disk string) {
	t.Helper()
	texts, took := plainRecords(disk)
	checkRecords(t, disk, int(took), texts...)
}

func checkLoaded(t *testing.T, disk string, objects []impl.Object, log []string, took int) {
	t.Helper()
	gotObjects, gotLog, n := impl.Loaded(disk)
	if n != int64(took) || !slices.Equal(gotLog, log) || !sameObjects(gotObjects, objects) {
		t.Errorf("Loaded(%.400q) of %d bytes: %.300q, %.200q, %d, not %.300q, %.200q, %d", disk, len(disk), fmt.Sprint(gotObjects), gotLog, n, fmt.Sprint(objects), log, took)
	}
}

func checkLoadedAsTold(t *testing.T, disk string) {
	t.Helper()
	objects, log, took := plainLoaded(disk)
	checkLoaded(t, disk, objects, log, int(took))
}

// checkAllLoaded wants a disk of these texts to be taken to its end, and no further.
func checkAllLoaded(t *testing.T, texts []string, objects []impl.Object, log []string) {
	t.Helper()
	disk := diskOf(texts...)
	for _, behind := range []string{"", "x", "\n", "0", "0 9\n", "3 1\nabc\n", diskOf(""), diskOf("none"), diskOf("none", "all")} {
		checkLoaded(t, disk+behind, objects, log, len(disk))
	}
}

func TestShowObject(t *testing.T) {
	for want, o := range map[string]impl.Object{
		"\n0 0 0\n0 200 0 0\n\n":                             {Response: impl.Response{Status: 200}},
		"h/a\n0 0 0\n0 200 0 0\n\n":                          {Key: "h/a", Response: impl.Response{Status: 200}},
		"h/a\n1 2 3\n0 404 0 4\nbody\n":                      {Key: "h/a", Response: impl.Response{Status: 404, Body: "body"}, Asked: 1, Got: 2, Epoch: 3},
		"k\n5 5 0\n1 200 0 0\nx: 1\r\n\n":                    {Key: "k", Fields: fieldsOf("x", "1"), Response: impl.Response{Status: 200}, Asked: 5, Got: 5},
		"k\n5 5 0\n0 200 1 0\nx: 1\r\n\n":                    {Key: "k", Response: impl.Response{Status: 200, Fields: fieldsOf("x", "1")}, Asked: 5, Got: 5},
		"k\n5 5 0\n1 200 1 1\nx: \r\ny: \r\nb\n":             {Key: "k", Fields: fieldsOf("x", ""), Response: impl.Response{Status: 200, Fields: fieldsOf("y", ""), Body: "b"}, Asked: 5, Got: 5},
		"k\n5 6 7\n2 304 1 0\nA: 1\r\na: x:  y\r\nA: \r\n\n": {Key: "k", Fields: fieldsOf("A", "1", "a", "x:  y"), Response: impl.Response{Status: 304, Fields: fieldsOf("A", "")}, Asked: 5, Got: 6, Epoch: 7},
		"k\n9 10 11\n0 299 0 2\n\r\n\n":                      {Key: "k", Response: impl.Response{Status: 299, Body: "\r\n"}, Asked: 9, Got: 10, Epoch: 11},
		"k\n9 10 11\n0 299 0 1\n\n\n":                        {Key: "k", Response: impl.Response{Status: 299, Body: "\n"}, Asked: 9, Got: 10, Epoch: 11},
		"k\n0 253402300799 100000\n0 599 0 0\n\n":            {Key: "k", Response: impl.Response{Status: 599}, Got: lastMoment, Epoch: 100000},
		"1\n1 1 1\n1 204 1 0\n1: 1\r\n1: 1\r\n\n":            {Key: "1", Fields: fieldsOf("1", "1"), Response: impl.Response{Status: 204, Fields: fieldsOf("1", "1")}, Asked: 1, Got: 1, Epoch: 1},
		"k\n0 0 0\n1 200 0 0\ncontent-length: 5\r\n\n":       {Key: "k", Fields: fieldsOf("content-length", "5"), Response: impl.Response{Status: 200}},
	} {
		checkShownObject(t, o, want)
	}
}

// All counts of Fields, of its own and of its Response.
func TestShowObjectByFields(t *testing.T) {
	for own := range 33 {
		for told := range 33 {
			o := storedOf("h/a", "body")
			o.Fields, o.Response.Fields = manyFields(own), manyFields(told)
			if own > 30 || told > 30 {
				checkNotShown(t, o)
				continue
			}
			want := fmt.Sprintf("h/a\n1 2 3\n%d 200 %d 4\n", own, told)
			for i := range own + told {
				if i >= own {
					i -= own
				}
				want += fmt.Sprintf("n%d: v%d\r\n", i, i)
			}
			checkShownObject(t, o, want+"body\n")
		}
	}
	name, value := strings.Repeat("n", 64), strings.Repeat("v", 400)
	o, row := storedOf("h/a", "b"), name+": "+value+"\r\n"
	o.Fields = fieldsOf(slices.Repeat([]string{name, value}, 30)...)
	o.Response.Fields = o.Fields
	checkShownObject(t, o, "h/a\n1 2 3\n30 200 30 1\n"+strings.Repeat(row, 60)+"b\n")
}

// lookingBodies look like what an Object or a Record is made of.
func lookingBodies() []string {
	shown := "h/b\n1 2 3\n1 200 1 2\nx: \r\nage: 1\r\nb\n\n"
	return append(someBodies(), "\n", "\r", "\n\n", "\n\r", "\r\n\n", "a\nb", "\na", "a\n", "a\r\nb\r\n", "h/a\n", "1 2 3\n", "0 200 0 0\n\n", "x: 1\r\n", ": \r\n", shown, shown+shown, "\n"+shown, diskOf("x"), diskOf(shown, "all"), "all", "key h/a", " ", "  ", "0", "\x00", "é", "\xff\n", strings.Repeat("\n", 4000), strings.Repeat("\r\n", 2000), strings.Repeat("a: b\r\n", 600))
}

func TestShowObjectByBody(t *testing.T) {
	for _, body := range lookingBodies() {
		for own := range 3 {
			for told := range 3 {
				o := storedOf("h/a", body)
				o.Fields, o.Response.Fields = manyFields(own), manyFields(told)
				rows := strings.Repeat("n0: v0\r\n", min(own, 1)) + strings.Repeat("n1: v1\r\n", own/2) + strings.Repeat("n0: v0\r\n", min(told, 1)) + strings.Repeat("n1: v1\r\n", told/2)
				checkShownObject(t, o, fmt.Sprintf("h/a\n1 2 3\n%d 200 %d %d\n%s%s\n", own, told, len(body), rows, body))
			}
		}
	}
	for b := range 256 {
		body := string([]byte{byte(b)})
		checkShownObject(t, storedOf("h/a", body), "h/a\n1 2 3\n0 200 1 1\nage: 1\r\n"+body+"\n")
	}
	checkNotShown(t, storedOf("h/a", strings.Repeat("b", 4001)))
}

func TestShowObjectByNumbers(t *testing.T) {
	for _, test := range []struct {
		asked, got, epoch int64
		want              string
	}{
		{0, 0, 0, "0 0 0"},
		{0, 1, 0, "0 1 0"},
		{1, 1, 1, "1 1 1"},
		{9, 10, 9, "9 10 9"},
		{10, 99, 10, "10 99 10"},
		{999999999, 1000000000, 99999, "999999999 1000000000 99999"},
		{0, lastMoment, 100000, "0 253402300799 100000"},
		{lastMoment - 1, lastMoment, 1, "253402300798 253402300799 1"},
		{lastMoment, lastMoment, 0, "253402300799 253402300799 0"},
		{-1, 0, 0, ""},
		{0, -1, 0, ""},
		{-1, -1, 0, ""},
		{1, 0, 0, ""},
		{lastMoment, lastMoment - 1, 0, ""},
		{0, lastMoment + 1, 0, ""},
		{lastMoment + 1, lastMoment + 1, 0, ""},
		{0, 0, -1, ""},
		{0, 0, 100001, ""},
		{least, 0, 0, ""},
		{least, greatest, 0, ""},
		{0, greatest, 0, ""},
		{0, 0, least, ""},
		{0, 0, greatest, ""},
	} {
		o := storedOf("k", "b")
		o.Asked, o.Got, o.Epoch = test.asked, test.got, test.epoch
		if test.want == "" {
			checkNotShown(t, o)
			checkNoObject(t, fmt.Sprintf("k\n%d %d %d\n0 200 1 1\nage: 1\r\nb\n", test.asked, test.got, test.epoch))
		} else {
			checkShownObject(t, o, "k\n"+test.want+"\n0 200 1 1\nage: 1\r\nb\n")
		}
	}
}

func TestShowObjectByStatus(t *testing.T) {
	for status := int64(-5); status < 1010; status++ {
		o := storedOf("k", "")
		o.Response.Status = status
		want := fmt.Sprintf("k\n1 2 3\n0 %d 1 0\nage: 1\r\n\n", status)
		if status < 200 || status > 599 {
			checkNotShown(t, o)
			checkNoObject(t, want)
			continue
		}
		checkShownObject(t, o, want)
		o.Response.Body = "b"
		want = fmt.Sprintf("k\n1 2 3\n0 %d 1 1\nage: 1\r\nb\n", status)
		if status == 204 || status == 304 {
			checkNotShown(t, o)
			checkNoObject(t, want)
		} else {
			checkShownObject(t, o, want)
		}
	}
}

func TestShowObjectByKey(t *testing.T) {
	for size := range 510 {
		key := strings.Repeat("k", size)
		want := key + "\n1 2 3\n0 200 1 1\nage: 1\r\nb\n"
		if size <= 500 {
			checkShownObject(t, storedOf(key, "b"), want)
		} else {
			checkNotShown(t, storedOf(key, "b"))
			checkNoObject(t, want)
		}
	}
	for b := range 256 {
		s := string([]byte{byte(b)})
		for _, key := range []string{s, s + "a", "a" + s, "a" + s + "b", strings.Repeat("a", 499) + s} {
			want := key + "\n1 2 3\n0 200 1 1\nage: 1\r\nb\n"
			if b >= 33 && b <= 126 {
				checkShownObject(t, storedOf(key, "b"), want)
			} else {
				checkNotShown(t, storedOf(key, "b"))
				// What a byte 10 makes of it is not right either: no row of numbers follows.
				checkNoObject(t, want)
			}
		}
	}
}

func TestShowObjectOfWrongObjects(t *testing.T) {
	for _, o := range append(wrongObjects(), wrongTagged()...) {
		checkNotShown(t, o)
		// Written all the same, it is not read.
		text := fmt.Sprintf("%s\n%d %d %d\n%d %d %d %d\n", o.Key, o.Asked, o.Got, o.Epoch, len(o.Fields), o.Response.Status, len(o.Response.Fields), len(o.Response.Body))
		for _, field := range slices.Concat(o.Fields, o.Response.Fields) {
			text += field.Name + ": " + field.Value + "\r\n"
		}
		checkObjectAsTold(t, text+o.Response.Body+"\n")
	}
}

// storedObjects are right, and of each kind that the chapter names.
func storedObjects() []impl.Object {
	objects := []impl.Object{{Response: impl.Response{Status: 200}}, storedOf("h/a", "b"), storedOf("h/a", "", "x", ""), storedOf("h/a", "\n", "x", "1", "X", "1"), storedOf(strings.Repeat("k", 500), "b\n", "x", "1 2 3")}
	for i, body := range lookingBodies() {
		objects = append(objects, storedOf("h/"+strconv.Itoa(i), body, "a", "1", "b", ""))
	}
	for _, r := range rightResponses()[:1150:1150] {
		if r.Status%50 < 5 {
			objects = append(objects, impl.Object{Key: "h/a", Fields: manyFields(int(r.Status % 7)), Response: r, Asked: r.Status, Got: lastMoment - r.Status, Epoch: r.Status})
		}
	}
	full := storedOf("h/a", strings.Repeat("b", 4000), slices.Repeat([]string{"x-" + strings.Repeat("n", 62), strings.Repeat("v", 400)}, 30)...)
	full.Response.Fields = full.Fields
	return append(objects, full)
}

func TestReadObjectOfShowObject(t *testing.T) {
	objects := storedObjects()
	for i, o := range objects {
		shown := impl.ShowObject(o)
		if shown == "" || shown != plainShowObject(o) {
			t.Fatalf("ShowObject(%.300q): %.300q", fmt.Sprint(o), shown)
		}
		other := impl.ShowObject(objects[(i+1)%len(objects)])
		for _, behind := range append([]string{shown, other, other[:len(other)/2], "\n", "all", diskOf(shown)}, behindTexts...) {
			checkObject(t, shown+behind, o, len(shown))
		}
		for _, ahead := range []string{"\n", " ", "x", "\r\n", "0", "h\n", "0 0 0\n"} {
			checkObjectAsTold(t, ahead+shown)
		}
	}
}

// endsOf are places in a text of this length: all, or, if it is long, those near its ends and some between.
func endsOf(size int) []int {
	ends := []int{}
	for end := range size {
		if end < 120 || end > size-120 || end%61 == 0 {
			ends = append(ends, end)
		}
	}
	return ends
}

func TestReadObjectOfNoPart(t *testing.T) {
	for _, o := range storedObjects() {
		shown := impl.ShowObject(o)
		for _, end := range endsOf(len(shown)) {
			checkNoObject(t, shown[:end])
		}
		if t.Failed() {
			t.FailNow()
		}
	}
}

func TestReadObjectOfNoObject(t *testing.T) {
	for _, text := range []string{
		"", "\n", "\n\n", "\n\n\n", "\n\n\n\n", "h/a", "h/a\n", "h/a\n1 2 3", "h/a\n1 2 3\n", "h/a\n1 2 3\n0 200 0 0", "h/a\n1 2 3\n0 200 0 0\n", "all", "key h/a", "HTTP/1.1 200 ok\r\n\r\n", "x: 1\r\n",
		// Noughts ahead.
		"h/a\n01 2 3\n0 200 0 0\n\n", "h/a\n1 02 3\n0 200 0 0\n\n", "h/a\n1 2 03\n0 200 0 0\n\n", "h/a\n1 2 3\n00 200 0 0\n\n", "h/a\n1 2 3\n0 0200 0 0\n\n", "h/a\n1 2 3\n0 200 00 0\n\n", "h/a\n1 2 3\n0 200 0 00\n\n", "h/a\n00 2 3\n0 200 0 0\n\n", "h/a\n1 2 00\n0 200 0 0\n\n", "h/a\n000000000000001 2 3\n0 200 0 0\n\n", "h/a\n1 2 3\n01 200 0 0\nx: 1\r\n\n", "h/a\n1 2 3\n0 200 01 0\nx: 1\r\n\n", "h/a\n1 2 3\n0 200 0 01\nb\n",
		// A sign.
		"h/a\n+1 2 3\n0 200 0 0\n\n", "h/a\n1 +2 3\n0 200 0 0\n\n", "h/a\n1 2 +3\n0 200 0 0\n\n", "h/a\n1 2 3\n+0 200 0 0\n\n", "h/a\n1 2 3\n-0 200 0 0\n\n", "h/a\n1 2 3\n0 +200 0 0\n\n", "h/a\n1 2 3\n0 -200 0 0\n\n", "h/a\n1 2 3\n0 200 -0 0\n\n", "h/a\n1 2 3\n0 200 0 +0\n\n", "h/a\n-1 2 3\n0 200 0 0\n\n", "h/a\n-0 2 3\n0 200 0 0\n\n", "h/a\n1 2 -3\n0 200 0 0\n\n", "h/a\n1 2 3\n-1 200 0 0\n\n", "h/a\n1 2 3\n0 200 -1 0\n\n", "h/a\n1 2 3\n0 200 0 -1\n\n",
		// Other digits.
		"h/a\n0x1 2 3\n0 200 0 0\n\n", "h/a\n1 2 a\n0 200 0 0\n\n", "h/a\n1 2 3\n0 2e2 0 0\n\n", "h/a\n1 2 3\n0 c8 0 0\n\n", "h/a\n1.0 2 3\n0 200 0 0\n\n", "h/a\n1 2_0 3\n0 200 0 0\n\n", "h/a\n1 2 3\n٠ 200 0 0\n\n", "h/a\n1 2 3\n0 200 0 0x1\nb\n",
		// More digits than there may be.
		"h/a\n1 2534023007990 3\n0 200 0 0\n\n", "h/a\n1 253402300800 3\n0 200 0 0\n\n", "h/a\n1 2 1000000\n0 200 0 0\n\n", "h/a\n1 2 3\n0 2000 0 0\n\n", "h/a\n1 2 3\n0 200 0 40000\n\n", "h/a\n1 2 3\n100 200 0 0\n\n", "h/a\n1 2 3\n0 200 100 0\n\n",
		"h/a\n9223372036854775807 9223372036854775807 3\n0 200 0 0\n\n", "h/a\n1 9223372036854775807 3\n0 200 0 0\n\n", "h/a\n1 2 9223372036854775807\n0 200 0 0\n\n", "h/a\n1 2 3\n9223372036854775807 200 0 0\n\n", "h/a\n1 2 3\n0 9223372036854775807 0 0\n\n", "h/a\n1 2 3\n0 200 9223372036854775807 0\n\n", "h/a\n1 2 3\n0 200 0 9223372036854775807\n\n",
		"h/a\n18446744073709551617 2 3\n0 200 0 0\n\n", "h/a\n1 18446744073709551618 3\n0 200 0 0\n\n", "h/a\n1 2 3\n18446744073709551616 200 0 0\n\n", "h/a\n1 2 3\n0 18446744073709551816 0 0\n\n", "h/a\n1 2 3\n0 200 0 18446744073709551616\n\n", "h/a\n1 2 3\n4294967296 200 0 0\n\n", "h/a\n1 2 3\n0 200 4294967296 0\n\n", "h/a\n1 2 3\n0 200 0 4294967296\n\n", "h/a\n1 2 3\n999999999999999 200 0 0\n\n", "h/a\n1 2 3\n0 200 999999999999999 0\n\n", "h/a\n1 2 3\n0 200 0 999999999999999\n\n",
		// Blanks, too many and too few.
		"h/a\n1  2 3\n0 200 0 0\n\n", "h/a\n1 2  3\n0 200 0 0\n\n", "h/a\n 1 2 3\n0 200 0 0\n\n", "h/a\n1 2 3 \n0 200 0 0\n\n", "h/a\n12 3\n0 200 0 0\n\n", "h/a\n1 23\n0 200 0 0\n\n", "h/a\n123\n0 200 0 0\n\n", "h/a\n1 2 3\n0  200 0 0\n\n", "h/a\n1 2 3\n0 200  0 0\n\n", "h/a\n1 2 3\n0 200 0  0\n\n", "h/a\n1 2 3\n0 200 0 0 \n\n", "h/a\n1 2 3\n 0 200 0 0\n\n", "h/a\n1 2 3\n0200 0 0\n\n", "h/a\n1 2 3\n0 2000 0\n\n", "h/a\n1 2 3\n0 200 00\n\n", "h/a\n1\t2 3\n0 200 0 0\n\n", "h/a\n1 2 3\n0 200\t0 0\n\n", "h/a\n1,2,3\n0 200 0 0\n\n", "h/a \n1 2 3\n0 200 0 0\n\n", " h/a\n1 2 3\n0 200 0 0\n\n",
		// Numbers too many and too few.
		"h/a\n1 2\n0 200 0 0\n\n", "h/a\n1 2 \n0 200 0 0\n\n", "h/a\n1 2 3 4\n0 200 0 0\n\n", "h/a\n1 2 3\n0 200 0\n\n", "h/a\n1 2 3\n0 200 0 \n\n", "h/a\n1 2 3\n0 200 0 0 0\n\n", "h/a\n1 2 3\n200 0 0\n\n", "h/a\n\n0 200 0 0\n\n", "h/a\n1 2 3\n\n\n",
		// Lines too many and too few.
		"h/a\n\n1 2 3\n0 200 0 0\n\n", "\nh/a\n1 2 3\n0 200 0 0\n\n", "h/a\n1 2 3\n\n0 200 0 0\n\n", "1 2 3\n0 200 0 0\n\n", "h/a\n0 200 0 0\n\n", "h/a\n1 2 3\n0 200 0 0\n", "h/a\nh/a\n1 2 3\n0 200 0 0\n\n", "h/a\n1 2 3\n1 2 3\n0 200 0 0\n\n", "h/a\n1 2 3\n1 200 0 0\n\nx: 1\r\n\n", "h/a\n1 2 3\n2 200 0 0\nx: 1\r\n\nx: 1\r\n\n", "h/a\n1 2 3\n1 200 1 0\nx: 1\r\n\r\ny: 1\r\n\n",
		// Other line ends.
		"h/a\r\n1 2 3\n0 200 0 0\n\n", "h/a\n1 2 3\r\n0 200 0 0\n\n", "h/a\n1 2 3\n0 200 0 0\r\n\n", "h/a\n1 2 3\n0 200 0 0\n\r\n", "h/a\r1 2 3\r0 200 0 0\r\r", "h/a\n1 2 3\n1 200 0 0\nx: 1\n\n", "h/a\n1 2 3\n1 200 0 0\nx: 1\r\n", "h/a\n1 2 3\n1 200 0 0\nx: 1\r\r\n\n", "h/a\n1 2 3\n1 200 0 0\nx: 1\n\r\n\n", "h/a\n1 2 3\n1 200 0 0\nx: 1\r\n\r\n", "h/a\n1 2 3\n0 200 1 1\nx: 1\nb\n", "h/a\n1 2 3\n0 200 0 1\nb\r\n", "h/a\n1 2 3\n0 200 0 1\nb\r", "h/a\n1 2 3\n0 200 0 0\n\x00", "h/a\x001 2 3\x000 200 0 0\x00\x00",
		// Counts too small and too great.
		"h/a\n1 2 3\n0 200 0 1\nx: 1\r\nb\n", "h/a\n1 2 3\n2 200 0 1\nx: 1\r\nb\n", "h/a\n1 2 3\n1 200 1 1\nx: 1\r\nb\n", "h/a\n1 2 3\n1 200 0 0\nx: 1\r\nb\n", "h/a\n1 2 3\n1 200 0 2\nx: 1\r\nb\n", "h/a\n1 2 3\n1 200 0 3\nx: 1\r\nb\n", "h/a\n1 2 3\n0 200 1 0\n\n", "h/a\n1 2 3\n1 200 0 0\n\n", "h/a\n1 2 3\n0 200 0 1\n\n", "h/a\n1 2 3\n0 200 0 2\n\n",
		// Fields that are not shown so.
		"h/a\n1 2 3\n1 200 0 0\nx:1\r\n\n", "h/a\n1 2 3\n0 200 1 0\nx:1\r\n\n", "h/a\n1 2 3\n1 200 0 0\nx:\r\n\n", "h/a\n1 2 3\n1 200 0 0\nx:  1\r\n\n", "h/a\n1 2 3\n1 200 0 0\nx: 1 \r\n\n", "h/a\n1 2 3\n1 200 0 0\nx:  \r\n\n", "h/a\n1 2 3\n1 200 0 0\nx:\t1\r\n\n", "h/a\n1 2 3\n1 200 0 0\nx: \t1\r\n\n", "h/a\n1 2 3\n1 200 0 0\nx : 1\r\n\n", "h/a\n1 2 3\n1 200 0 0\n x: 1\r\n\n", "h/a\n1 2 3\n1 200 0 0\n: 1\r\n\n", "h/a\n1 2 3\n1 200 0 0\nx 1\r\n\n", "h/a\n1 2 3\n1 200 0 0\nx\r\n\n", "h/a\n1 2 3\n1 200 0 0\n\r\n\n", "h/a\n1 2 3\n1 200 0 0\nx: \x7f\r\n\n", "h/a\n1 2 3\n0 200 1 0\nx: \xff\r\n\n", "h/a\n1 2 3\n1 200 0 0\nx: 1;\r\n y\r\n\n", "h/a\n1 2 3\n0 200 1 0\ncontent-length: 0\r\n\n", "h/a\n1 2 3\n0 200 1 0\nTransfer-Encoding: chunked\r\n\n",
		"h/a\n1 2 3\n1 200 0 0\nx: " + strings.Repeat("v", 401) + "\r\n\n", "h/a\n1 2 3\n0 200 1 0\n" + strings.Repeat("n", 65) + ": 1\r\n\n", "h/a\n1 2 3\n31 200 0 0\n" + strings.Repeat("x: 1\r\n", 31) + "\n", "h/a\n1 2 3\n0 200 31 0\n" + strings.Repeat("x: 1\r\n", 31) + "\n", "h/a\n1 2 3\n0 200 0 4001\n" + strings.Repeat("b", 4001) + "\n", strings.Repeat("k", 501) + "\n1 2 3\n0 200 0 0\n\n",
		// What is not right.
		"h a\n1 2 3\n0 200 0 0\n\n", "h/a\x7f\n1 2 3\n0 200 0 0\n\n", "h/\xff\n1 2 3\n0 200 0 0\n\n", "h/a\n2 1 3\n0 200 0 0\n\n", "h/a\n1 2 100001\n0 200 0 0\n\n", "h/a\n1 2 3\n0 199 0 0\n\n", "h/a\n1 2 3\n0 600 0 0\n\n", "h/a\n1 2 3\n0 204 0 1\nb\n", "h/a\n1 2 3\n0 304 0 1\nb\n", "h/a\n1 2 3\n0 0 0 0\n\n",
	} {
		checkNoObject(t, text)
		if _, _, is := plainReadObject(text); is {
			t.Errorf("%.200q is one", text)
		}
		if strings.HasSuffix(text, "\n\n") {
			checkNoObject(t, text+"x")
			checkNoObject(t, text+text)
		}
	}
}

// One byte more, less or other anywhere, and it is read as told or not at all.
func TestReadObjectOfChangedTexts(t *testing.T) {
	read := 0
	for _, o := range []impl.Object{storedOf("", ""), storedOf("h/a", "b\n", "x", ""), {Key: "k", Fields: fieldsOf("a", "x y", "b", "1"), Response: impl.Response{Status: 304, Fields: fieldsOf("age", "10")}, Asked: 10, Got: 20, Epoch: 100}, {Key: "k", Response: impl.Response{Status: 599, Body: "12: 3\r\n4 5\n"}, Asked: lastMoment, Got: lastMoment, Epoch: 100000}} {
		text := plainShowObject(o)
		for at := range len(text) + 1 {
			for b := range 256 {
				s := string([]byte{byte(b)})
				changed := []string{text[:at] + s + text[at:]}
				if at < len(text) {
					changed = append(changed, text[:at]+s+text[at+1:])
				}
				for _, one := range changed {
					if checkObjectAsTold(t, one) && one != text {
						read++
					}
				}
			}
			if at < len(text) {
				checkObjectAsTold(t, text[:at]+text[at+1:])
				checkObjectAsTold(t, text[at:])
				checkObjectAsTold(t, text[:at]+"\r\n"+text[at+1:])
				checkObjectAsTold(t, text[:at]+text[at:at+1]+text[at:])
			}
		}
	}
	if read < 1000 {
		t.Errorf("%d only were read", read)
	}
}

// drawnText has so many bytes of these at most.
func drawnText(source *rand.Rand, bytes string, least, most int) string {
	text := make([]byte, least+source.Intn(most-least+1))
	for i := range text {
		text[i] = bytes[source.Intn(len(bytes))]
	}
	return string(text)
}

func drawnFields(source *rand.Rand) []impl.Field {
	list := make([]impl.Field, source.Intn([]int{1, 2, 5, 31}[source.Intn(4)]))
	for i := range list {
		list[i].Name = drawnText(source, "aAbBz09!#$%&'*+-.^_|~`", 1, []int{3, 64}[source.Intn(2)])
		list[i].Value = strings.Trim(drawnText(source, "aZ09 \t:;,\"\\!~", 0, []int{4, 400}[source.Intn(2)]), " \t")
	}
	return list
}

func drawnObject(source *rand.Rand) impl.Object {
	var all strings.Builder
	for b := 33; b < 127; b++ {
		all.WriteByte(byte(b))
	}
	o := impl.Object{Key: drawnText(source, all.String(), 0, []int{5, 500}[source.Intn(2)]), Fields: drawnFields(source)}
	o.Got = []int64{source.Int63n(10), source.Int63n(lastMoment), lastMoment - source.Int63n(10)}[source.Intn(3)]
	o.Asked = o.Got - source.Int63n(o.Got+1)
	o.Epoch = []int64{source.Int63n(10), source.Int63n(100001), 100000 - source.Int63n(10)}[source.Intn(3)]
	o.Response = impl.Response{Status: 200 + source.Int63n(400), Fields: drawnFields(source)}
	if o.Response.Status != 204 && o.Response.Status != 304 {
		o.Response.Body = drawnText(source, "\n\n\r\r: 0123ab\x00\xff", 0, []int{10, 4000}[source.Intn(2)])
	}
	return o
}

func TestDrawnObjectsAreReadAsShown(t *testing.T) {
	source := rand.New(rand.NewSource(41))
	for range 2500 {
		o := drawnObject(source)
		shown := impl.ShowObject(o)
		if shown == "" || shown != plainShowObject(o) {
			t.Fatalf("ShowObject(%.300q): %.300q", fmt.Sprint(o), shown)
		}
		checkObject(t, shown, o, len(shown))
		checkObject(t, shown+drawnText(source, "\n\r: 0a\xff", 0, 40), o, len(shown))
		checkObject(t, shown+impl.ShowObject(drawnObject(source)), o, len(shown))
		for range 6 {
			checkNoObject(t, shown[:source.Intn(len(shown))])
		}
		checkNoObject(t, shown[:len(shown)-1])
		for range 6 {
			at := source.Intn(len(shown))
			checkObjectAsTold(t, shown[:at]+drawnText(source, "\n\r: 019a\xff", 0, 2)+shown[at+source.Intn(2):])
		}
		if t.Failed() {
			t.FailNow()
		}
	}
}

// Short texts of the bytes that Objects are made of: nearly none is one, and what is told of one is the same.
func TestReadObjectOfManyTexts(t *testing.T) {
	source := rand.New(rand.NewSource(42))
	read := 0
	for range 40000 {
		parts := []string{drawnText(source, "kk\n ", 0, 2), "\n", fmt.Sprint(source.Intn(3), " ", source.Intn(3), " ", source.Intn(3)), "\n", fmt.Sprint(source.Intn(3), " ", 199+source.Intn(3), " ", source.Intn(2), " ", source.Intn(3)), "\n", strings.Repeat("a: 1\r\n", source.Intn(4)), drawnText(source, "b\n", 0, 3), "\n"}
		if source.Intn(4) == 0 {
			parts[source.Intn(len(parts))] = drawnText(source, "\n\r: 012", 0, 3)
		}
		if checkObjectAsTold(t, strings.Join(parts, "")) {
			read++
		}
	}
	if read < 1000 {
		t.Errorf("%d only were read", read)
	}
}

func checkRecord(t *testing.T, text string, want string) {
	t.Helper()
	if got := impl.Record(text); got != want {
		t.Errorf("Record(%.100q) of %d bytes: %.100q, not %.100q", text, len(text), got, want)
	}
}

func TestRecord(t *testing.T) {
	checkRecord(t, "", "0 9\n\n")
	checkRecord(t, "ab", "2 942205075\nab\n")
	checkRecord(t, "depot", "5 1168893123\ndepot\n")
	checkRecord(t, "1:h/a", "5 126715252\n1:h/a\n")
	for _, text := range []string{"\n", "\n\n", "a\n", "\na", "a\nb\nc", " ", "  ", " a ", "a b", "\r\n", "\x00", "\xff", "é", "all", "0 9\n\n", "2 942205075\nab\n", strings.Repeat("\n", 100)} {
		checkRecord(t, text, strconv.Itoa(len(text))+" "+strconv.FormatInt(plainHash(text), 10)+"\n"+text+"\n")
	}
	for b := range 256 {
		text := string([]byte{byte(b)})
		checkRecord(t, text, fmt.Sprintf("1 %d\n%s\n", (9*16777619+b+1)%(hashTop+1), text))
		checkRecords(t, impl.Record(text), len(impl.Record(text)), text)
	}
}

func TestRecordByLength(t *testing.T) {
	for _, size := range []int{0, 1, 2, 9, 10, 11, 99, 100, 101, 999, 1000, 1001, 4000, 8999, 9000, 9001, 9002, 9999, 10000, 10001, 90000, 100000, 1000000} {
		for _, s := range []string{"x", "\n", "\xff", " "} {
			text := strings.Repeat(s, size)
			record := impl.Record(text)
			if size > 9000 {
				checkRecord(t, text, "")
				// Written all the same, it is no Record.
				checkRecords(t, fmt.Sprintf("%d %d\n%s\n", size, quickHash(text), text), 0)
				continue
			}
			checkRecord(t, text, fmt.Sprintf("%d %d\n%s\n", size, quickHash(text), text))
			checkRecords(t, record, len(record), text)
			checkRecords(t, record+record+"x", 2*len(record), text, text)
		}
	}
	// What is shown of an Object may be too long for a Record.
	full := storedObjects()[len(storedObjects())-1]
	checkRecord(t, impl.ShowObject(full), "")
}

func TestRecords(t *testing.T) {
	checkRecords(t, "", 0)
	for _, texts := range [][]string{{""}, {"a"}, {"ab"}, {"\n"}, {" "}, {"0 9\n\n"}, {"", ""}, {"", "a"}, {"a", ""}, {"a", "a"}, {"a", "", "b"}, {"", "", "", "x"}, {"a\nb", "\n\n", "\r\n", "\xff\x00"}, {strings.Repeat("x", 9000), "y"}, {diskOf("a"), diskOf("a", "b")}, slices.Repeat([]string{"a", ""}, 50)} {
		disk, whole := "", []string{}
		for i, text := range texts {
			for _, behind := range []string{"x", "\n", " ", "0", "0 9", "0 9\n", "9\n\n", "1 2\na\n", "\x00", "0 10\n\n", "00 9\n\n", diskOf("a")[:3], "  " + diskOf("a"), "\n" + diskOf("a")} {
				checkRecords(t, disk+behind, len(disk), whole...)
				checkRecords(t, disk+behind+diskOf(texts[i:]...), len(disk), whole...)
			}
			checkRecords(t, disk+impl.Record(text), len(disk+impl.Record(text)), texts[:i+1]...)
			disk, whole = disk+impl.Record(text), texts[:i+1]
		}
		checkRecords(t, disk, len(disk), texts...)
		checkRecords(t, disk+disk, 2*len(disk), slices.Concat(texts, texts)...)
	}
}

func TestRecordsOfNoRecord(t *testing.T) {
	for _, disk := range []string{
		"0", "0 9", "0 9\n", "0 9\n\r", "0 9 \n\n", "0  9\n\n", " 0 9\n\n", "09\n\n", "0\n9\n\n", "0 9\r\n\n", "0 9\n\r\n", "0\t9\n\n", "\n0 9\n\n", "9 0\n\n", "0 0\n\n", "0 8\n\n", "0 10\n\n", "0 9 9\n\n", "0\n\n", "9\n\n", "\n\n", " \n\n", "0 \n\n", " 9\n\n", "\n",
		"00 9\n\n", "0 09\n\n", "+0 9\n\n", "-0 9\n\n", "0 +9\n\n", "0 -9\n\n", "0x0 9\n\n", "0 2147483656\n\n", "0 4294967305\n\n", "0 18446744073709551625\n\n", "18446744073709551616 9\n\n", "9223372036854775807 9\n\n", "9223372036854775808 9\n\n", "999999999999999 9\n\n", "9000 9\n\n", "9001 9\n\n", "0 9223372036854775807\n\n", "-1 9\n\n", "-9223372036854775808 9\n\n",
		"1 942205075\nab\n", "3 942205075\nab\n", "3 942205075\nab\n\n", "2 942205076\nab\n", "2 942205074\nab\n", "2 942205075\nab", "2 942205075\nab ", "2 942205075\nab\r", "2 942205075\nabc", "2 942205075\nabb\n", "2 942205075\naab\n", "2 942205075\nba\n", "2 942205075\nac\n", "2 942205075\nAb\n", "2 942205075\na\n", "2 942205075\n\n", "2 942205075ab\n", "2942205075\nab\n", "2 942205075 ab\n", "2 942205075\n\nab\n", "2,942205075\nab\n", "02 942205075\nab\n", "2 0942205075\nab\n", "2 942205075\r\nab\n", "942205075 2\nab\n", "ab\n", "2\nab\n", "2 942205075", "20 942205075\nab\n",
	} {
		if texts, took := plainRecords(disk); len(texts) != 0 || took != 0 {
			t.Errorf("%q is one", disk)
		}
		for _, behind := range []string{"", "0 9\n\n", diskOf("ab"), "x"} {
			// A text that lacks just a row end may get it from what is behind.
			if !strings.HasPrefix(disk+behind, "0 9\n\n") {
				checkRecords(t, disk+behind, 0)
				checkRecords(t, diskOf("ab", "")+disk+behind, len(diskOf("ab", "")), "ab", "")
			}
		}
	}
}

// What of a disk is cut goes with the Record in which it is cut, and with no other.
func TestRecordsCutAnywhere(t *testing.T) {
	for _, texts := range [][]string{{"", "a", "\n", "ab\nab", "", "all"}, {plainShowObject(storedOf("h/a", "b\n\n", "x", "")), "key h/b", plainShowObject(storedOf("h/a", "0 9\n\n"))}, {"a", diskOf("a", "b"), "b"}} {
		disk := diskOf(texts...)
		ends := []int{0}
		for i := range texts {
			ends = append(ends, len(diskOf(texts[:i+1]...)))
		}
		whole := 0
		for cut := range len(disk) + 1 {
			if whole+1 < len(ends) && cut == ends[whole+1] {
				whole++
			}
			checkRecords(t, disk[:cut], ends[whole], texts[:whole]...)
			checkLoadedAsTold(t, disk[:cut])
		}
		if whole != len(texts) {
			t.Errorf("%d of %d texts only were seen", whole, len(texts))
		}
	}
}

// One byte more, less or other anywhere, and the Records are as told.
func TestRecordsOfChangedDisks(t *testing.T) {
	disk := diskOf("ab", "", "a\n1 2\n", "key h")
	for at := range len(disk) + 1 {
		for b := range 256 {
			s := string([]byte{byte(b)})
			checkRecordsAsTold(t, disk[:at]+s+disk[at:])
			if at < len(disk) {
				checkRecordsAsTold(t, disk[:at]+s+disk[at+1:])
			}
		}
		if at < len(disk) {
			checkRecordsAsTold(t, disk[:at]+disk[at+1:])
			checkRecordsAsTold(t, disk[at:])
		}
	}
}

func shownAll(objects ...impl.Object) []string {
	texts := []string{}
	for _, o := range objects {
		texts = append(texts, plainShowObject(o))
	}
	return texts
}

func TestLoadedOfObjects(t *testing.T) {
	a, b, c := storedOf("h/a", "1"), storedOf("h/b", "2"), storedOf("h/c", "3", "x", "1")
	checkLoaded(t, "", nil, nil, 0)
	checkAllLoaded(t, nil, nil, nil)
	checkAllLoaded(t, shownAll(a), []impl.Object{a}, nil)
	checkAllLoaded(t, shownAll(a, b, c), []impl.Object{a, b, c}, nil)
	checkAllLoaded(t, shownAll(c, b, a), []impl.Object{c, b, a}, nil)
	for _, o := range storedObjects() {
		if text := plainShowObject(o); len(text) <= 9000 {
			checkAllLoaded(t, []string{text}, []impl.Object{o}, nil)
			checkAllLoaded(t, append(shownAll(storedOf("other", "")), text), []impl.Object{storedOf("other", ""), o}, nil)
		}
	}
}

// The longest that a Record has room for, and one byte more: that is no Record, and what is behind it is not loaded.
func TestLoadedOfLongObjects(t *testing.T) {
	o := storedOf("h/a", strings.Repeat("b", 4000), slices.Repeat([]string{"x", strings.Repeat("v", 395)}, 12)...)
	for len(plainShowObject(o)) < 9000 {
		o.Key += "k"
	}
	checkAllLoaded(t, append(shownAll(o), "key h/b"), []impl.Object{o}, []string{"key h/b"})
	o.Key += "k"
	text := plainShowObject(o)
	first := diskOf("key h/b")
	checkLoaded(t, first+fmt.Sprintf("%d %d\n%s\n", len(text), quickHash(text), text)+first, nil, []string{"key h/b"}, len(first))
}

func TestLoadedInThePlaceOfOne(t *testing.T) {
	with := func(key, body string, got int64, asks ...string) impl.Object {
		o := storedOf(key, body, asks...)
		o.Got = got
		return o
	}
	a1, a2, a3 := with("h/a", "1", 5), with("h/a", "2", 9), with("h/a", "3", 3)
	b1, b2 := with("h/b", "1", 5), with("h/b", "2", 9)
	c1, c2 := with("h/a", "1", 5, "x", "1", "y", "2"), with("h/a", "2", 9, "x", "1", "y", "2")
	turnedC, otherC, moreC, lessC, bigC := with("h/a", "1", 5, "y", "2", "x", "1"), with("h/a", "1", 5, "x", "1", "y", "3"), with("h/a", "1", 5, "x", "1", "y", "2", "z", ""), with("h/a", "1", 5, "x", "1"), with("h/a", "1", 5, "x", "1", "Y", "2")
	keyC := with("h/A", "1", 5, "x", "1", "y", "2")
	for _, test := range [][2][]impl.Object{
		{{a1, a1}, {a1}},
		{{a1, a2}, {a2}},
		{{a2, a1}, {a1}},
		{{a1, a2, a3}, {a3}},
		{{a1, b1, a2}, {a2, b1}},
		{{b1, a1, a2}, {b1, a2}},
		{{a1, b1, b2, a2}, {a2, b2}},
		{{a1, b1, a2, b2, a3}, {a3, b2}},
		{{a1, c1, a2}, {a2, c1}},
		{{a1, c1, c2}, {a1, c2}},
		{{c1, c2, c1}, {c1}},
		{{c1, turnedC}, {c1, turnedC}},
		{{turnedC, c1, c2}, {turnedC, c2}},
		{{c1, otherC, c2}, {c2, otherC}},
		{{c1, moreC, lessC, c2}, {c2, moreC, lessC}},
		{{lessC, moreC, c1, lessC}, {lessC, moreC, c1}},
		{{c1, bigC, c2}, {c2, bigC}},
		{{c1, keyC, c2}, {c2, keyC}},
		{{with("", "1", 5), with("", "2", 6, "x", ""), with("", "3", 7)}, {with("", "3", 7), with("", "2", 6, "x", "")}},
		// What is together alike, but parted otherwise.
		{{with("h/a", "1", 5, "x", "1", "y", "2"), with("h/a", "1", 5, "x", "1y", "2", "")}, {with("h/a", "1", 5, "x", "1", "y", "2"), with("h/a", "1", 5, "x", "1y", "2", "")}},
		{{with("h/ax", "1", 5, "y", "1"), with("h/a", "1", 5, "xy", "1")}, {with("h/ax", "1", 5, "y", "1"), with("h/a", "1", 5, "xy", "1")}},
	} {
		checkAllLoaded(t, shownAll(test[0]...), test[1], nil)
	}
}

// What the Response is does not matter to whose place it is.
func TestLoadedInThePlaceOfOneWithAnotherResponse(t *testing.T) {
	first, second := storedOf("h/a", "1", "x", "1"), storedOf("h/a", "1", "x", "1")
	for _, change := range []func(o *impl.Object){
		func(o *impl.Object) { o.Response = impl.Response{Status: 304} },
		func(o *impl.Object) { o.Response.Fields = fieldsOf("vary", "x", "y", "2") },
		func(o *impl.Object) { o.Response.Body = strings.Repeat("b", 3000) },
		func(o *impl.Object) { o.Asked, o.Got = 0, 0 },
		func(o *impl.Object) { o.Asked, o.Got = lastMoment, lastMoment },
		func(o *impl.Object) { o.Epoch = 0 },
		func(o *impl.Object) { o.Epoch = 100000 },
	} {
		changed := second
		change(&changed)
		checkAllLoaded(t, shownAll(first, changed), []impl.Object{changed}, nil)
		checkAllLoaded(t, shownAll(changed, first), []impl.Object{first}, nil)
	}
}

func TestLoadedOfPurges(t *testing.T) {
	a, b, g := storedOf("h/a", "1"), storedOf("h/ab", "2"), storedOf("g/a", "3")
	a.Response.Fields, b.Response.Fields, g.Response.Fields = fieldsOf("surrogate-key", "t, u"), fieldsOf("surrogate-key", "u"), nil
	all := []impl.Object{a, b, g}
	for _, test := range []struct {
		purge string
		left  []impl.Object
	}{
		{"key h/a", []impl.Object{b, g}},
		{"key h/ab", []impl.Object{a, g}},
		{"key h", all},
		{"tag t", []impl.Object{b, g}},
		{"tag u", []impl.Object{g}},
		{"tag x", all},
		{"begin h/a", []impl.Object{g}},
		{"begin h/ab", []impl.Object{a, g}},
		{"begin g", []impl.Object{a, b}},
		{"begin x", all},
		{"all", nil},
	} {
		log := []string{test.purge}
		checkAllLoaded(t, log, nil, log)
		checkAllLoaded(t, append(shownAll(all...), test.purge), test.left, log)
		// Ahead of what it would Hit it hits nothing, whatever the Epochs are.
		checkAllLoaded(t, append([]string{test.purge}, shownAll(all...)...), all, log)
		checkAllLoaded(t, slices.Concat(shownAll(all...), log, log), test.left, []string{test.purge, test.purge})
		// What comes again comes behind all that stayed.
		left := slices.Clone(test.left)
		for _, o := range all {
			if !slices.ContainsFunc(left, func(other impl.Object) bool { return sameObject(o, other) }) {
				left = append(left, o)
			}
		}
		checkAllLoaded(t, slices.Concat(shownAll(all...), log, shownAll(all...)), left, log)
		checkAllLoaded(t, slices.Concat(shownAll(all...), log, shownAll(all...), log), slices.DeleteFunc(left, func(o impl.Object) bool {
			p, _ := plainReadPurge(test.purge)
			return plainHits(p, o)
		}), slices.Concat(log, log))
		// The Epoch does not matter to what goes.
		for _, epoch := range []int64{0, 1, 2, 100000} {
			o := a
			o.Epoch = epoch
			checkAllLoaded(t, append(log, shownAll(o)...), []impl.Object{o}, log)
			left := []impl.Object{o}
			if !slices.ContainsFunc(test.left, func(other impl.Object) bool { return other.Key == a.Key }) {
				left = nil
			}
			checkAllLoaded(t, append(shownAll(o), log...), left, log)
		}
	}
}

// What goes moves the places of what is behind it.
func TestLoadedPlacesBehindAPurge(t *testing.T) {
	a, b, c := storedOf("h/a", "1"), storedOf("h/b", "2"), storedOf("h/c", "3")
	b2, c2 := storedOf("h/b", "4"), storedOf("h/c", "5")
	checkAllLoaded(t, append(append(shownAll(a, b, c), "key h/a"), shownAll(b2)...), []impl.Object{b2, c}, []string{"key h/a"})
	checkAllLoaded(t, append(append(shownAll(a, b, c), "key h/a"), shownAll(c2, b2)...), []impl.Object{b2, c2}, []string{"key h/a"})
	checkAllLoaded(t, append(append(shownAll(a, b, c), "key h/a"), shownAll(a, b2)...), []impl.Object{b2, c, a}, []string{"key h/a"})
	checkAllLoaded(t, append(append(shownAll(a, b, c), "key h/b"), shownAll(c2, b2)...), []impl.Object{a, c2, b2}, []string{"key h/b"})
	checkAllLoaded(t, append(append(append(shownAll(a, b, c), "all"), shownAll(c, a)...), "key h/c", plainShowObject(a)), []impl.Object{a}, []string{"all", "key h/c"})
}

// All that is hit goes, wherever it stands and however much it is.
func TestLoadedOfAPurgeThatHitsMany(t *testing.T) {
	var objects, odd []impl.Object
	for i := range 200 {
		o := storedOf("h/"+strconv.Itoa(i), "b", "x", strconv.Itoa(i%3))
		if i%2 == 0 {
			o.Response.Fields = fieldsOf("surrogate-key", "even")
		} else {
			odd = append(odd, o)
		}
		objects = append(objects, o)
	}
	checkAllLoaded(t, shownAll(objects...), objects, nil)
	checkAllLoaded(t, append(shownAll(objects...), "tag even"), odd, []string{"tag even"})
	checkAllLoaded(t, append(shownAll(objects...), "tag even", "begin h/1"), slices.DeleteFunc(slices.Clone(odd), func(o impl.Object) bool { return o.Key[2] == '1' }), []string{"tag even", "begin h/1"})
}

func TestLoadedByLengthOfTheLog(t *testing.T) {
	o, other := storedOf("h/a", "1"), storedOf("h/b", "2")
	for count := range 64 {
		log := quietLog(count)
		texts := append(shownAll(o), log...)
		if count <= 60 {
			checkAllLoaded(t, texts, []impl.Object{o}, log)
			checkAllLoaded(t, append(texts, plainShowObject(other)), []impl.Object{o, other}, log)
			continue
		}
		// The first that there is no room for is refused, and it is there that the loading ends.
		taken := len(diskOf(texts[:61]...))
		checkLoaded(t, diskOf(texts...), []impl.Object{o}, log[:60], taken)
		checkLoaded(t, diskOf(append(texts, plainShowObject(other))...), []impl.Object{o}, log[:60], taken)
	}
	full := append(shownAll(o, other), quietLog(60)...)
	for _, purge := range []string{"all", "key h/a", "begin h", "key x", "tag x"} {
		checkLoaded(t, diskOf(append(full, purge)...), []impl.Object{o, other}, quietLog(60), len(diskOf(full...)))
		checkLoaded(t, diskOf(append(append(full, purge), shownAll(storedOf("h/c", ""))...)...), []impl.Object{o, other}, quietLog(60), len(diskOf(full...)))
	}
	// Objects have room all the same.
	checkAllLoaded(t, append(full, shownAll(storedOf("h/c", ""), storedOf("h/a", "3"))...), []impl.Object{storedOf("h/a", "3"), other, storedOf("h/c", "")}, quietLog(60))
	last := append(append(shownAll(o, other), quietLog(59)...), "key h/a")
	checkAllLoaded(t, last, []impl.Object{other}, last[2:])
}

// neither are texts of Records that are no Object and no Purge.
func neither() []string {
	shown := plainShowObject(storedOf("h/z", "z", "x", "1"))
	texts := []string{"", " ", "\n", "x", "none", "key", "key ", "key  a", "key a ", "key a b", "Key a", "KEY a", "all ", " all", "all\n", "\nall", "all a", "All", "tag", "begin ", "key a\n", "key " + strings.Repeat("x", 201), "key \xff", "h/a", "h/a\n", "HTTP/1.1 200 ok\r\n\r\n", strings.Repeat("x", 9000), diskOf("all"), diskOf(shown)}
	for _, behind := range []string{"x", "\n", " ", "\x00", "\r\n", "all", shown, shown[:5], diskOf("all")} {
		texts = append(texts, shown+behind)
	}
	for _, ahead := range []string{"\n", " ", "\x00", "\r\n", "all\n", "key h/a\n", shown[:5], diskOf("all")} {
		texts = append(texts, ahead+shown)
	}
	return append(texts, shown[:len(shown)-1], "h/z\n"+shown, strings.Replace(shown, "1 2 3", "01 2 3", 1), strings.Replace(shown, "x: 1", "x:1", 1), strings.Replace(shown, "\r\n", "\n", 1), strings.Replace(shown, "1 2 3", "2 1 3", 1), strings.Replace(shown, "h/z", "h z", 1))
}

func TestLoadedUpToARecordThatIsNeither(t *testing.T) {
	a, b := storedOf("h/a", "1"), storedOf("h/b", "2")
	texts := append(shownAll(a, b), "key h/a", plainShowObject(a), "tag t")
	for _, text := range neither() {
		for at := range len(texts) + 1 {
			taken := diskOf(texts[:at]...)
			objects, log, _ := plainLoaded(taken)
			checkLoaded(t, taken+diskOf(text), objects, log, len(taken))
			checkLoaded(t, taken+diskOf(text)+diskOf(texts[at:]...), objects, log, len(taken))
			checkLoaded(t, taken+diskOf(text, "all"), objects, log, len(taken))
		}
	}
}

// The Record of what is refused is a Record: it is Loaded that does not take it.
func TestLoadedTakesNoMoreThanRecords(t *testing.T) {
	for _, text := range neither() {
		disk := diskOf("all", text, "all")
		checkRecords(t, disk, len(disk), "all", text, "all")
	}
}

func drawnStored(source *rand.Rand) impl.Object {
	o := drawnKept(source, 5)
	for !plainObjectOk(o) {
		o = drawnKept(source, 5)
	}
	o.Fields = fieldsOf("x", strconv.Itoa(source.Intn(3)), "y", "1")[:2*source.Intn(2)]
	if source.Intn(2) == 0 {
		slices.Reverse(o.Fields)
	}
	o.Response.Body = drawnText(source, "\n\r 019:", 0, 20)
	o.Got += source.Int63n(100)
	return o
}

// drawnDisk has the texts, too, of which it is made; now and then one of them is neither, or there is something else between.
func drawnDisk(source *rand.Rand) (string, []string) {
	disk := ""
	texts := []string{}
	for range source.Intn(14) {
		text := plainShowObject(drawnStored(source))
		switch source.Intn(24) {
		case 0:
			text = neither()[source.Intn(len(neither()))]
		case 1:
			disk += drawnText(source, "0 9\nx", 1, 4)
		case 2, 3, 4, 5, 6, 7:
			text = plainShowPurge(drawnPurge(source))
			if text == "all" && source.Intn(3) > 0 {
				text = "key h/a"
			}
		}
		disk, texts = disk+plainRecord(text), append(texts, text)
	}
	return disk, texts
}

func TestDrawnDisks(t *testing.T) {
	source := rand.New(rand.NewSource(43))
	loaded, gone, purged := 0, 0, 0
	for range 1500 {
		disk, _ := drawnDisk(source)
		checkRecordsAsTold(t, disk)
		checkLoadedAsTold(t, disk)
		whole, _ := impl.Records(disk)
		objects, log, _ := impl.Loaded(disk)
		loaded += len(objects)
		purged += len(log)
		gone += len(whole) - len(objects) - len(log)
		for range 8 {
			cut := disk[:source.Intn(len(disk)+1)]
			texts, took := impl.Records(cut)
			isFirst := slices.Equal(texts, whole[:min(len(texts), len(whole))])
			if !isFirst || int(took) != len(diskOf(texts...)) || len(texts) < len(whole) && len(cut) >= len(diskOf(whole[:len(texts)+1]...)) {
				t.Fatalf("Records(%.300q): %.300q, %d", cut, texts, took)
			}
			atCut, logAtCut, tookAtCut := impl.Loaded(cut)
			checkLoaded(t, cut[:took], atCut, logAtCut, int(tookAtCut))
			checkLoaded(t, cut[:tookAtCut], atCut, logAtCut, int(tookAtCut))
			checkLoadedAsTold(t, cut)
			if !slices.Equal(logAtCut, log[:min(len(logAtCut), len(log))]) {
				t.Fatalf("the log of %.300q is %q, and of the whole %q", cut, logAtCut, log)
			}
		}
		if t.Failed() {
			t.FailNow()
		}
	}
	if loaded < 2000 || gone < 1000 || purged < 1500 {
		t.Errorf("%d Objects, %d that went, %d Purges only", loaded, gone, purged)
	}
}

// What is loaded is hit by no Purge that came behind it; what is not is hit by one, or another has its place.
func TestWhatIsLoadedIsNotHitByWhatCameBehind(t *testing.T) {
	source := rand.New(rand.NewSource(44))
	loaded, gone := 0, 0
	for range 1500 {
		disk, _ := drawnDisk(source)
		objects, log, took := impl.Loaded(disk)
		texts, all := impl.Records(disk[:took])
		if all != took {
			t.Fatalf("Loaded(%.300q) took %d, of which the Records are %d", disk, took, all)
		}
		for i, text := range texts {
			o, size, is := impl.ReadObject(text)
			if !is || int(size) != len(text) {
				continue
			}
			hit, follows, again := false, false, false
			for _, behind := range texts[i+1:] {
				p, isPurge := impl.ReadPurge(behind)
				other, _, isObject := impl.ReadObject(behind)
				hit = hit || isPurge && impl.Hits(p, o)
				follows = follows || isObject && other.Key == o.Key && slices.Equal(other.Fields, o.Fields)
				again = again || behind == text
			}
			is = slices.ContainsFunc(objects, func(other impl.Object) bool { return sameObject(o, other) })
			if !again && is != (!hit && !follows) {
				t.Fatalf("Loaded(%.300q): %.300q is there: %v, hit %v, followed %v", disk, fmt.Sprint(o), is, hit, follows)
			}
			if hit || follows {
				gone++
			} else {
				loaded++
			}
		}
		purges := slices.DeleteFunc(slices.Clone(texts), func(text string) bool {
			_, is := impl.ReadPurge(text)
			return !is
		})
		if !slices.Equal(purges, log) || !impl.LogOk(log) {
			t.Fatalf("Loaded(%.300q): the log is %q, not %q", disk, log, purges)
		}
	}
	if loaded < 1000 || gone < 1000 {
		t.Errorf("%d loaded, %d gone only", loaded, gone)
	}
}

// A disk that is written behind what was taken of it goes on where that ended.
func TestLoadedOfWhatWasTakenAndMore(t *testing.T) {
	source := rand.New(rand.NewSource(45))
	for range 500 {
		disk, _ := drawnDisk(source)
		_, log, took := impl.Loaded(disk)
		o := drawnStored(source)
		more := disk[:took] + impl.Record(impl.ShowObject(o))
		objects, _, end := impl.Loaded(more)
		if int(end) != len(more) || !slices.ContainsFunc(objects, func(other impl.Object) bool { return sameObject(o, other) }) {
			t.Fatalf("Loaded(%.300q): %.300q, %d", more, fmt.Sprint(objects), end)
		}
		left, longer, end := impl.Loaded(more + impl.Record("all"))
		if int(end) != len(more)+len(impl.Record("all")) || len(left) != 0 || len(longer) != len(log)+1 {
			t.Fatalf("Loaded(%.300q and all): %.300q, %q, %d", more, fmt.Sprint(left), longer, end)
		}
	}
}

func textsListShare(a, b []string) bool {
	if cap(a) == 0 || cap(b) == 0 {
		return false
	}
	const size = unsafe.Sizeof("")
	fromA, fromB := uintptr(unsafe.Pointer(unsafe.SliceData(a))), uintptr(unsafe.Pointer(unsafe.SliceData(b)))
	return fromA < fromB+uintptr(cap(b))*size && fromB < fromA+uintptr(cap(a))*size
}

func TestStoredObjectsStayAndAnswersAreNewMemory(t *testing.T) {
	source := rand.New(rand.NewSource(46))
	given := append(append(wrongObjects(), storedObjects()...), keptAt("h/a", 1, "t", "u"))
	for range 100 {
		given = append(given, drawnObject(source))
	}
	for _, o := range given {
		roomed := roomyObject(o)
		before := deepObjects([]impl.Object{roomed})
		shown := impl.ShowObject(roomed)
		if !sameObjects(deepObjects([]impl.Object{roomed}), before) || !sameObject(roomed, o) {
			t.Fatalf("%.300q became %.300q", fmt.Sprint(o), fmt.Sprint(roomed))
		}
		if anyShares([]string{shown}, allTexts(roomed)) {
			t.Fatalf("ShowObject(%.300q) shares memory", fmt.Sprint(o))
		}
		first, _, is := impl.ReadObject(shown)
		second, _, _ := impl.ReadObject(shown)
		if !is {
			continue
		}
		checkObjectsApart(t, first, second)
		if anyShares(allTexts(first), []string{shown}) || listsShare(first.Fields, first.Response.Fields) {
			t.Fatalf("ReadObject(%.300q) shares memory", shown)
		}
		if cap(first.Fields) != len(first.Fields) || cap(first.Response.Fields) != len(first.Response.Fields) {
			t.Fatalf("there is room behind a list of ReadObject(%.300q)", shown)
		}
		writeInto([]impl.Object{first})
		if !sameObject(second, o) {
			t.Fatalf("an answer became %.300q", fmt.Sprint(second))
		}
	}
}

func TestDisksAndTheirAnswersAreNewMemory(t *testing.T) {
	source := rand.New(rand.NewSource(47))
	for range 200 {
		disk, texts := drawnDisk(source)
		disk += diskOf("key h/a", plainShowObject(drawnStored(source)), "")
		for _, text := range append(texts, "a", "all") {
			if sharesMemory(impl.Record(text), text) {
				t.Fatalf("Record(%.100q) shares memory", text)
			}
		}
		records, _ := impl.Records(disk)
		again, _ := impl.Records(disk)
		objects, log, _ := impl.Loaded(disk)
		objectsAgain, logAgain, _ := impl.Loaded(disk)
		if anyShares(records, []string{disk}) || anyShares(records, again) || textsListShare(records, again) {
			t.Fatalf("Records(%.300q) shares memory", disk)
		}
		if anyShares(log, []string{disk}) || anyShares(log, logAgain) || textsListShare(log, logAgain) || objectsShare(objects, objectsAgain) || listsShareInside(objects) {
			t.Fatalf("Loaded(%.300q) shares memory", disk)
		}
		for i, o := range objects {
			if anyShares(allTexts(o), append(slices.Clone(log), disk)) {
				t.Fatalf("Loaded(%.300q): %.300q shares memory", disk, fmt.Sprint(o))
			}
			for j, other := range objectsAgain {
				checkObjectsApart(t, o, other)
				if j < i {
					checkObjectsApart(t, o, objects[j])
				}
			}
		}
		writeInto(objects)
		clear(log)
		_ = append(log, "written")
		clear(records)
		_ = append(records, "written")
		wantObjects, wantLog, _ := plainLoaded(disk)
		wantRecords, _ := plainRecords(disk)
		if !sameObjects(objectsAgain, wantObjects) || !slices.Equal(logAgain, wantLog) || !slices.Equal(again, wantRecords) {
			t.Fatalf("the answers of %.300q changed", disk)
		}
	}
}

// Each function answers, whatever it is given.
func TestStoreFunctionsAnswerAtEveryArgument(t *testing.T) {
	texts := append(append(textsOf("0 9\n", 6), textsOf("\x00\xff1k:\r\n", 3)...), oddTexts...)
	texts = append(append(texts, hugeTexts()...), mixedTexts(300, 60)...)
	for _, s := range []string{"0 9\n\n", "1", "9", "0", " ", "\n", "\r\n", "a: 1\r\n", "h/a\n", "1 2 3\n", "all", "1 2\na\n", "\xff\n"} {
		texts = append(texts, strings.Repeat(s, 100000))
	}
	for _, text := range texts {
		checkRecordsAsTold(t, text)
		checkLoadedAsTold(t, text)
		checkObjectAsTold(t, text)
		checkRecord(t, text, plainRecord(text))
		if len(text) > 9000 {
			continue
		}
		checkLoadedAsTold(t, diskOf(text))
		checkLoadedAsTold(t, diskOf("all", text, "all"))
		checkObjectAsTold(t, "h/a\n1 2 3\n0 200 0 0\n"+text)
		checkObjectAsTold(t, "h/a\n1 2 3\n1 200 0 0\n"+text)
		checkObjectAsTold(t, "h/a\n"+text+"0 200 0 0\n\n")
		checkRecordsAsTold(t, diskOf("a")+text+diskOf("b"))
	}
}

// Counts and sizes that nothing can have are asked of texts that have much.
func TestReadObjectByFarNumbers(t *testing.T) {
	numbers := []string{"0", "1", "30", "31", "100", "4000", "4001", "999999999999999", "1000000000000000", "2147483647", "2147483648", "4294967296", "4294967297", "9223372036854775806", "9223372036854775807", "9223372036854775808", "18446744073709551615", "18446744073709551616", "99999999999999999999999999", strings.Repeat("9", 100000), "-1", "-9223372036854775808"}
	fields := strings.Repeat("a: 1\r\n", 5000)
	for _, number := range numbers {
		for _, body := range []string{"", fields, strings.Repeat("b", 5000) + "\n"} {
			for _, row := range []string{number + " 200 0 0", "0 200 " + number + " 0", "0 200 0 " + number, "0 " + number + " 0 0", number + " " + number + " " + number + " " + number} {
				checkObjectAsTold(t, "h/a\n1 2 3\n"+row+"\n"+body)
			}
			checkObjectAsTold(t, "h/a\n"+number+" "+number+" "+number+"\n0 200 0 0\n"+body)
			checkRecordsAsTold(t, number+" 9\n"+body)
			checkRecordsAsTold(t, "0 "+number+"\n"+body)
			checkRecordsAsTold(t, diskOf("")+number+" "+number+"\n"+body)
		}
	}
}

// Very long disks are read to their end.
func TestLongDisks(t *testing.T) {
	record := diskOf("x")
	texts, took := impl.Records(strings.Repeat(record, 100000) + "x")
	if len(texts) != 100000 || int(took) != 100000*len(record) {
		t.Errorf("%d texts, %d bytes", len(texts), took)
	}
	var disk strings.Builder
	for i := range 20000 {
		disk.WriteString(diskOf(plainShowObject(storedOf("h/"+strconv.Itoa(i%15000), strconv.Itoa(i)))))
	}
	objects, log, end := impl.Loaded(disk.String() + "0 9\n")
	if len(objects) != 15000 || len(log) != 0 || int(end) != disk.Len() {
		t.Fatalf("%d Objects, %d in the log, %d bytes", len(objects), len(log), end)
	}
	for i, o := range objects {
		body := strconv.Itoa(i)
		if i < 5000 {
			body = strconv.Itoa(i + 15000)
		}
		if o.Key != "h/"+strconv.Itoa(i) || o.Response.Body != body {
			t.Fatalf("number %d is %.200q", i, fmt.Sprint(o))
		}
	}
}
