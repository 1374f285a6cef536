package tests

import (
	"fmt"
	"math"
	"math/rand"
	"regexp"
	"slices"
	"strconv"
	"strings"
	"testing"

	"loop.example/g00207/impl"
)

// framingNames are what the Fields of a right message have not, in many letters.
var framingNames = []string{"content-length", "Content-Length", "CONTENT-LENGTH", "cOnTeNt-LeNgTh", "transfer-encoding", "Transfer-Encoding", "TRANSFER-ENCODING", "tRaNsFeR-eNcOdInG"}

// behindTexts may stand behind a message.
var behindTexts = []string{"", "x", "\r", "\n", "\r\n", "\r\n\r\n", " ", "0", lastChunk, "1\r\na\r\n" + lastChunk, "GET / HTTP/1.1\r\n\r\n", "HTTP/1.1 200 ok\r\n\r\n", "content-length: 3\r\n\r\nabc", "\x00\xff", strings.Repeat("y", 5000)}

func sameRequest(a, b impl.Request) bool {
	return a.Method == b.Method && a.Target == b.Target && a.Body == b.Body && slices.Equal(a.Fields, b.Fields)
}

func sameResponse(a, b impl.Response) bool {
	return a.Status == b.Status && a.Body == b.Body && slices.Equal(a.Fields, b.Fields)
}

func isZeroRequest(r impl.Request) bool {
	return sameRequest(r, impl.Request{})
}

func isZeroResponse(r impl.Response) bool {
	return sameResponse(r, impl.Response{})
}

// someBodies are at most MaxBody bytes, some of them such that they look like what is around a Body.
func someBodies() []string {
	return []string{"", "b", "body", "\r\n", "\r\n\r\n", "\x00\xff\x80", lastChunk, "GET / HTTP/1.1\r\n\r\n", "content-length: 1\r\n\r\n", strings.Repeat("b", 9), strings.Repeat("b", 10), strings.Repeat("b", 100), strings.Repeat("b", 3999), strings.Repeat("b", 4000)}
}

// someFields have at most 29 of them, so that a content-length may come behind, and tell of no Body.
func someFields() [][]impl.Field {
	return [][]impl.Field{nil, fieldsOf("a", "1"), fieldsOf("A", "", "a", "x y", "B", ":"), fieldsOf("Host", "h", "connection", "content-length", "te", "chunked"), fieldsOf("content-lengths", "1", "x-transfer-encoding", "chunked", "length", "2"), fieldsOf(strings.Repeat("n", 64), strings.Repeat("v", 400)), manyFields(28), manyFields(29)}
}

// rightRequests are RequestOk, and can be shown.
func rightRequests() []impl.Request {
	var right []impl.Request
	for _, method := range []string{"G", "GET", "AZ", strings.Repeat("M", 63), strings.Repeat("M", 64)} {
		right = append(right, impl.Request{Method: method, Target: "/"}, impl.Request{Method: method, Target: "/a", Body: "xy"})
	}
	for _, target := range []string{"/", "*", "!", "~", "/a?b=c&d#e", "http://h/a:1", "%zz\\\"<>", "HTTP/1.1", strings.Repeat("t", 199), strings.Repeat("t", 200)} {
		right = append(right, impl.Request{Method: "GET", Target: target}, impl.Request{Method: "PUT", Target: target, Body: "xy"})
	}
	for _, body := range someBodies() {
		for _, list := range someFields() {
			right = append(right, impl.Request{Method: "PUT", Target: "/a", Fields: list, Body: body})
		}
	}
	return append(right, impl.Request{Method: "GET", Target: "/", Fields: manyFields(30)})
}

// wrongRequests are not RequestOk, each by one thing.
func wrongRequests() []impl.Request {
	right := impl.Request{Method: "PUT", Target: "/a", Fields: fieldsOf("h", "1"), Body: "xy"}
	wrong := []impl.Request{{}}
	add := func(change func(r *impl.Request)) {
		with, without := right, right
		without.Body = ""
		change(&with)
		change(&without)
		wrong = append(wrong, with, without)
	}
	methods := append([]string{"g", "get", "Get", "GEt", "GE1", "1", "G-T", "G_T", "GET ", " GET", "G T", "GET\t", "GET\r\n", "G\x00", "G@", "G[", "!", strings.Repeat("M", 65), strings.Repeat("M", 100000)}, wrongNames()...)
	for _, method := range methods {
		add(func(r *impl.Request) { r.Method = method })
	}
	targets := append([]string{"", " ", "\t", "/a b", "/a ", " /a", "/a\t", "\t/a", "/\tb", "/a\r", "/a\n", "/a\r\n", "/\x00", "/\x1f", "/\x7f", "/\x80", "/\xff", strings.Repeat("t", 201), strings.Repeat("t", 400), strings.Repeat("t", 100000)}, oddTexts...)
	for _, target := range targets {
		add(func(r *impl.Request) { r.Target = target })
	}
	for _, list := range append(wrongLists(), framedLists()...) {
		add(func(r *impl.Request) { r.Fields = list })
	}
	for _, size := range []int{4001, 4002, 100000} {
		large := right
		large.Body = strings.Repeat("b", size)
		wrong = append(wrong, large)
	}
	return wrong
}

// framedLists are FieldsOk, and each tells of a Body, or seems to.
func framedLists() [][]impl.Field {
	var lists [][]impl.Field
	for _, name := range framingNames {
		for _, value := range []string{"", "0", "2", "chunked", "x"} {
			lists = append(lists, fieldsOf(name, value), fieldsOf("a", "1", name, value, "b", "2"), append(manyFields(29), impl.Field{Name: name, Value: value}))
		}
	}
	return append(lists, fieldsOf("content-length", "2", "transfer-encoding", "chunked"))
}

// rightResponses are ResponseOk, and can be shown.
func rightResponses() []impl.Response {
	var right []impl.Response
	for status := int64(200); status <= 599; status++ {
		right = append(right, impl.Response{Status: status}, impl.Response{Status: status, Fields: fieldsOf("h", "1")})
		if status != 204 && status != 304 {
			right = append(right, impl.Response{Status: status, Body: "xy"})
		}
	}
	for _, status := range []int64{200, 404} {
		for _, body := range someBodies() {
			for _, list := range someFields() {
				right = append(right, impl.Response{Status: status, Fields: list, Body: body})
			}
		}
	}
	for _, status := range []int64{204, 304} {
		for _, list := range append(someFields(), manyFields(30)) {
			right = append(right, impl.Response{Status: status, Fields: list})
		}
	}
	return right
}

// wrongResponses are not ResponseOk, each by one thing.
func wrongResponses() []impl.Response {
	wrong := []impl.Response{{}}
	for _, status := range []int64{199, 600, 0, 1, -1, -200, 99, 100, 101, 1000, 2000, 200 + 1<<32, math.MinInt64, math.MaxInt64} {
		wrong = append(wrong, impl.Response{Status: status}, impl.Response{Status: status, Fields: fieldsOf("a", "1"), Body: "xy"})
	}
	for _, status := range []int64{204, 304} {
		for _, body := range someBodies()[1:] {
			wrong = append(wrong, impl.Response{Status: status, Body: body})
		}
	}
	for _, list := range append(wrongLists(), framedLists()...) {
		wrong = append(wrong, impl.Response{Status: 200, Fields: list, Body: "xy"}, impl.Response{Status: 200, Fields: list}, impl.Response{Status: 204, Fields: list}, impl.Response{Status: 304, Fields: list})
	}
	for _, size := range []int{4001, 4002, 100000} {
		wrong = append(wrong, impl.Response{Status: 200, Body: strings.Repeat("b", size)}, impl.Response{Status: 204, Body: strings.Repeat("b", size)})
	}
	return wrong
}

func TestMessageConstants(t *testing.T) {
	codes := []int64{impl.FmNone, impl.FmLength, impl.FmChunked, impl.FmBad, impl.RdOk, impl.RdLine, impl.RdFields, impl.RdFraming, impl.RdBody}
	if !slices.Equal(codes, []int64{0, 1, 2, 3, 0, 1, 2, 3, 4}) {
		t.Fatal(codes)
	}
}

func TestRequestOk(t *testing.T) {
	full := impl.Request{Method: "PUT", Target: "/", Fields: manyFields(30), Body: "xy"}
	for _, r := range append(rightRequests(), full) {
		if !impl.RequestOk(r) {
			t.Errorf("%.80q is one", fmt.Sprint(r))
		}
	}
	for _, r := range wrongRequests() {
		if impl.RequestOk(r) {
			t.Errorf("%.80q is none", fmt.Sprint(r))
		}
	}
}

func TestRequestOkOfEachByte(t *testing.T) {
	for b := range 256 {
		s := string([]byte{byte(b)})
		for _, method := range []string{s, "A" + s, s + "A", "A" + s + "A"} {
			if want := b >= 'A' && b <= 'Z'; impl.RequestOk(impl.Request{Method: method, Target: "/"}) != want {
				t.Errorf("the Method %q is not %v", method, want)
			}
		}
		for _, target := range []string{s, "/" + s, s + "/", "/" + s + "/"} {
			if want := b >= 33 && b <= 126; impl.RequestOk(impl.Request{Method: "GET", Target: target}) != want {
				t.Errorf("the Target %q is not %v", target, want)
			}
		}
		if !impl.RequestOk(impl.Request{Method: "GET", Target: "/", Body: s}) || !impl.ResponseOk(impl.Response{Status: 200, Body: s}) {
			t.Errorf("the Body %q", s)
		}
	}
}

func TestResponseOk(t *testing.T) {
	for _, r := range append(rightResponses(), impl.Response{Status: 200, Fields: manyFields(30)}, impl.Response{Status: 200, Fields: manyFields(30), Body: "xy"}) {
		if !impl.ResponseOk(r) {
			t.Errorf("%.80q is one", fmt.Sprint(r))
		}
	}
	for _, r := range wrongResponses() {
		if impl.ResponseOk(r) {
			t.Errorf("%.80q is none", fmt.Sprint(r))
		}
	}
}

func TestResponseOkByStatus(t *testing.T) {
	for status, want := range map[int64][2]bool{199: {false, false}, 200: {true, true}, 203: {true, true}, 204: {true, false}, 205: {true, true}, 303: {true, true}, 304: {true, false}, 305: {true, true}, 399: {true, true}, 400: {true, true}, 599: {true, true}, 600: {false, false}} {
		without, with := impl.Response{Status: status}, impl.Response{Status: status, Body: "b"}
		if impl.ResponseOk(without) != want[0] || impl.ResponseOk(with) != want[1] {
			t.Errorf("Status %d: %v without a Body, %v with one", status, impl.ResponseOk(without), impl.ResponseOk(with))
		}
		if (impl.ShowResponse(without) != "") != want[0] || (impl.ShowResponse(with) != "") != want[1] {
			t.Errorf("Status %d: %q and %q", status, impl.ShowResponse(without), impl.ShowResponse(with))
		}
	}
}

func TestFramingByLength(t *testing.T) {
	sizes := map[string]int64{"0": 0, "1": 1, "9": 9, "10": 10, "3999": 3999, "4000": 4000, "00": 0, "01": 1, "007": 7, "04000": 4000, "000000000000000": 0, "000000000004000": 4000}
	wrong := []string{"", "4001", "4002", "5000", "40000", "04001", "000000000004001", "999999999999999", "0000000000000001", "0000000000004000", "9223372036854775807", "18446744073709551617", "+1", "-1", "-0", "+0", "++1", "a", "1a", "a1", "0x1", "f", "1.0", "1e1", "1_0", "1 1", "1,1", "1, 1", "1;", "\"1\"", "'1'", ",", ",1", "1,", "chunked", ":", "*"}
	for _, name := range framingNames[:4] {
		for _, around := range [][2][]impl.Field{{nil, nil}, {fieldsOf("a", "9"), nil}, {nil, fieldsOf("a", "9", "te", "chunked")}, {manyFields(14), manyFields(15)}} {
			for value, size := range sizes {
				list := slices.Concat(around[0], fieldsOf(name, value), around[1])
				if kind, n := impl.Framing(list); kind != impl.FmLength || n != size {
					t.Errorf("Framing with %s: %s: %d, %d", name, value, kind, n)
				}
			}
			for _, value := range wrong {
				list := slices.Concat(around[0], fieldsOf(name, value), around[1])
				if kind, n := impl.Framing(list); kind != impl.FmBad || n != 0 {
					t.Errorf("Framing with %s: %s: %d, %d", name, value, kind, n)
				}
			}
		}
	}
	for _, list := range [][]impl.Field{
		fieldsOf("content-length", "1", "content-length", "1"), fieldsOf("content-length", "1", "Content-Length", "2"), fieldsOf("content-length", "1", "a", "b", "CONTENT-LENGTH", "1"),
		fieldsOf("content-length", "", "content-length", "1"), fieldsOf("content-length", "1", "content-length", ""), fieldsOf("content-length", "", "content-length", ""), slices.Repeat(fieldsOf("content-length", "0"), 30),
	} {
		if kind, n := impl.Framing(list); kind != impl.FmBad || n != 0 {
			t.Errorf("Framing(%.80q): %d, %d", list, kind, n)
		}
	}
}

func TestFramingByChunks(t *testing.T) {
	wrong := []string{"", "chunke", "chunkedd", "xchunked", "gzip", "identity", "gzip, chunked", "chunked, gzip", "chunked, chunked", "chunked,", ",chunked", "chunked;", "chunked;a=b", "\"chunked\"", "chun ked", "chunked chunked", "0", "1", "4000"}
	for _, name := range framingNames[4:] {
		for _, around := range [][2][]impl.Field{{nil, nil}, {fieldsOf("a", "9"), nil}, {nil, fieldsOf("a", "9", "te", "gzip")}, {manyFields(14), manyFields(15)}} {
			for _, value := range []string{"chunked", "Chunked", "CHUNKED", "cHuNkEd", "chunkeD"} {
				list := slices.Concat(around[0], fieldsOf(name, value), around[1])
				if kind, n := impl.Framing(list); kind != impl.FmChunked || n != 0 {
					t.Errorf("Framing with %s: %s: %d, %d", name, value, kind, n)
				}
			}
			for _, value := range wrong {
				list := slices.Concat(around[0], fieldsOf(name, value), around[1])
				if kind, n := impl.Framing(list); kind != impl.FmBad || n != 0 {
					t.Errorf("Framing with %s: %s: %d, %d", name, value, kind, n)
				}
			}
		}
	}
	for _, list := range [][]impl.Field{
		fieldsOf("transfer-encoding", "chunked", "transfer-encoding", "chunked"), fieldsOf("transfer-encoding", "chunked", "Transfer-Encoding", "gzip"), fieldsOf("transfer-encoding", "gzip", "a", "b", "TRANSFER-ENCODING", "chunked"),
		fieldsOf("transfer-encoding", "", "transfer-encoding", "chunked"), fieldsOf("transfer-encoding", "chunked", "transfer-encoding", ""), slices.Repeat(fieldsOf("transfer-encoding", "chunked"), 30),
	} {
		if kind, n := impl.Framing(list); kind != impl.FmBad || n != 0 {
			t.Errorf("Framing(%.80q): %d, %d", list, kind, n)
		}
	}
}

func TestFramingByBothOrNeither(t *testing.T) {
	for _, length := range framingNames[:4] {
		for _, coding := range framingNames[4:] {
			for _, values := range [][2]string{{"1", "chunked"}, {"0", "chunked"}, {"4000", "Chunked"}, {"4001", "chunked"}, {"x", "chunked"}, {"", "chunked"}, {"1", "gzip"}, {"1", ""}, {"0", ""}, {"", ""}, {"x", "y"}} {
				for _, list := range [][]impl.Field{fieldsOf(length, values[0], coding, values[1]), fieldsOf(coding, values[1], length, values[0]), fieldsOf("a", "b", coding, values[1], "c", "d", length, values[0], "e", "f")} {
					if kind, n := impl.Framing(list); kind != impl.FmBad || n != 0 {
						t.Errorf("Framing(%q): %d, %d", list, kind, n)
					}
				}
			}
		}
	}
	for _, list := range append(someFields(), fieldsOf(), manyFields(30)) {
		if kind, n := impl.Framing(list); kind != impl.FmNone || n != 0 {
			t.Errorf("Framing(%.80q): %d, %d", list, kind, n)
		}
	}
}

func TestFramingOfWrongFields(t *testing.T) {
	for _, list := range wrongLists() {
		for _, told := range [][]impl.Field{nil, fieldsOf("content-length", "1"), fieldsOf("transfer-encoding", "chunked")} {
			if kind, n := impl.Framing(slices.Concat(told, list)); kind != impl.FmBad || n != 0 {
				t.Fatalf("Framing(%.80q) with %q: %d, %d", list, told, kind, n)
			}
		}
	}
	for _, told := range [][]impl.Field{fieldsOf("content-length", "1"), fieldsOf("transfer-encoding", "chunked"), fieldsOf("z", "z")} {
		if kind, n := impl.Framing(append(manyFields(30), told...)); kind != impl.FmBad || n != 0 {
			t.Errorf("Framing of 31 with %q: %d, %d", told, kind, n)
		}
	}
}

// plainFraming tells Framing of Fields that are FieldsOk a second time.
func plainFraming(list []impl.Field) (int64, int64) {
	var lengths, codings []string
	for _, field := range list {
		if strings.EqualFold(field.Name, "content-length") {
			lengths = append(lengths, field.Value)
		}
		if strings.EqualFold(field.Name, "transfer-encoding") {
			codings = append(codings, field.Value)
		}
	}
	if len(lengths) == 0 && len(codings) == 0 {
		return 0, 0
	}
	if len(lengths) == 0 && len(codings) == 1 && strings.EqualFold(codings[0], "chunked") {
		return 2, 0
	}
	if len(lengths) == 1 && len(codings) == 0 && len(lengths[0]) <= 15 {
		if size, err := strconv.ParseUint(lengths[0], 10, 64); err == nil && size <= 4000 {
			return 1, int64(size)
		}
	}
	return 3, 0
}

var (
	requestForm  = regexp.MustCompile("^([A-Z]{1,64}) ([!-~]{1,200}) HTTP/1\\.1\\r\\n")
	responseForm = regexp.MustCompile("^HTTP/1\\.1 ([2-5][0-9][0-9]) [!#$%&'*+.^_|~`0-9A-Za-z-]{1,64}\\r\\n")
)

// plainBody tells of what stands behind the first line: the Fields, the Body, what both take, and the code.
func plainBody(text string, bodiless bool) ([]impl.Field, string, int64, int64) {
	list, took, is := plainReadFields(text)
	if !is {
		return nil, "", 0, 2
	}
	kept := plainWithout(list, "content-length", "transfer-encoding")
	kind, size := plainFraming(list)
	rest := text[took:]
	switch {
	case kind == 3:
		return nil, "", 0, 3
	case bodiless || kind == 0:
		return kept, "", took, 0
	case kind == 1 && int64(len(rest)) >= size:
		return kept, rest[:size], took + size, 0
	case kind == 2:
		if body, eaten, is := plainUnchunked(rest); is {
			return kept, body, took + eaten, 0
		}
	}
	return nil, "", 0, 4
}

// plainReadRequest and plainReadResponse tell ReadRequest and ReadResponse once more, by expressions.
func plainReadRequest(text string) (impl.Request, int64, int64) {
	line := requestForm.FindStringSubmatch(text)
	if line == nil {
		return impl.Request{}, 0, 1
	}
	list, body, took, code := plainBody(text[len(line[0]):], false)
	if code != 0 {
		return impl.Request{}, 0, code
	}
	return impl.Request{Method: line[1], Target: line[2], Fields: list, Body: body}, int64(len(line[0])) + took, 0
}

func plainReadResponse(text string) (impl.Response, int64, int64) {
	line := responseForm.FindStringSubmatch(text)
	if line == nil {
		return impl.Response{}, 0, 1
	}
	list, body, took, code := plainBody(text[len(line[0]):], line[1] == "204" || line[1] == "304")
	if code != 0 {
		return impl.Response{}, 0, code
	}
	status, _ := strconv.ParseInt(line[1], 10, 64)
	return impl.Response{Status: status, Fields: list, Body: body}, int64(len(line[0])) + took, 0
}

func TestShowRequest(t *testing.T) {
	for _, c := range []struct {
		r    impl.Request
		want string
	}{
		{impl.Request{Method: "G", Target: "*"}, "G * HTTP/1.1\r\n\r\n"},
		{impl.Request{Method: "GET", Target: "/"}, "GET / HTTP/1.1\r\n\r\n"},
		{impl.Request{Method: "GET", Target: "/a?b=%20", Fields: fieldsOf("Host", "h", "A", "")}, "GET /a?b=%20 HTTP/1.1\r\nHost: h\r\nA: \r\n\r\n"},
		{impl.Request{Method: "PUT", Target: "/a", Body: "x"}, "PUT /a HTTP/1.1\r\ncontent-length: 1\r\n\r\nx"},
		{impl.Request{Method: "PUT", Target: "/a", Fields: fieldsOf("h", "1", "H", "2"), Body: "\r\n\x00\xff"}, "PUT /a HTTP/1.1\r\nh: 1\r\nH: 2\r\ncontent-length: 4\r\n\r\n\r\n\x00\xff"},
		{impl.Request{Method: "PUT", Target: "/a", Body: strings.Repeat("b", 10)}, "PUT /a HTTP/1.1\r\ncontent-length: 10\r\n\r\n" + strings.Repeat("b", 10)},
		{impl.Request{Method: "PUT", Target: "/a", Body: strings.Repeat("b", 4000)}, "PUT /a HTTP/1.1\r\ncontent-length: 4000\r\n\r\n" + strings.Repeat("b", 4000)},
		{impl.Request{Method: strings.Repeat("M", 64), Target: strings.Repeat("t", 200)}, strings.Repeat("M", 64) + " " + strings.Repeat("t", 200) + " HTTP/1.1\r\n\r\n"},
		{impl.Request{Method: "GET", Target: "/", Fields: slices.Repeat(fieldsOf("a", "1"), 30)}, "GET / HTTP/1.1\r\n" + strings.Repeat("a: 1\r\n", 30) + "\r\n"},
		{impl.Request{Method: "GET", Target: "/", Fields: slices.Repeat(fieldsOf("a", "1"), 29), Body: "b"}, "GET / HTTP/1.1\r\n" + strings.Repeat("a: 1\r\n", 29) + "content-length: 1\r\n\r\nb"},
		{impl.Request{Method: "GET", Target: "/", Fields: slices.Repeat(fieldsOf("a", "1"), 30), Body: "b"}, ""},
		{impl.Request{Method: "GET", Target: "/", Fields: manyFields(30), Body: strings.Repeat("b", 4000)}, ""},
	} {
		if got := impl.ShowRequest(c.r); got != c.want {
			t.Errorf("ShowRequest(%.60q): %.80q, not %.80q", fmt.Sprint(c.r), got, c.want)
		}
	}
	for _, r := range wrongRequests() {
		if got := impl.ShowRequest(r); got != "" {
			t.Fatalf("ShowRequest(%.60q): %.80q", fmt.Sprint(r), got)
		}
	}
}

func TestShowResponse(t *testing.T) {
	for _, c := range []struct {
		r    impl.Response
		want string
	}{
		{impl.Response{Status: 200}, "HTTP/1.1 200 ok\r\ncontent-length: 0\r\n\r\n"},
		{impl.Response{Status: 200, Body: "xy"}, "HTTP/1.1 200 ok\r\ncontent-length: 2\r\n\r\nxy"},
		{impl.Response{Status: 203, Fields: fieldsOf("A", "1", "a", "")}, "HTTP/1.1 203 ok\r\nA: 1\r\na: \r\ncontent-length: 0\r\n\r\n"},
		{impl.Response{Status: 204}, "HTTP/1.1 204 ok\r\n\r\n"},
		{impl.Response{Status: 204, Fields: fieldsOf("A", "1")}, "HTTP/1.1 204 ok\r\nA: 1\r\n\r\n"},
		{impl.Response{Status: 205}, "HTTP/1.1 205 ok\r\ncontent-length: 0\r\n\r\n"},
		{impl.Response{Status: 304, Fields: fieldsOf("etag", "\"x\"")}, "HTTP/1.1 304 ok\r\netag: \"x\"\r\n\r\n"},
		{impl.Response{Status: 305}, "HTTP/1.1 305 ok\r\ncontent-length: 0\r\n\r\n"},
		{impl.Response{Status: 399, Body: "\r\n"}, "HTTP/1.1 399 ok\r\ncontent-length: 2\r\n\r\n\r\n"},
		{impl.Response{Status: 400, Body: "x"}, "HTTP/1.1 400 no\r\ncontent-length: 1\r\n\r\nx"},
		{impl.Response{Status: 599, Body: strings.Repeat("b", 4000)}, "HTTP/1.1 599 no\r\ncontent-length: 4000\r\n\r\n" + strings.Repeat("b", 4000)},
		{impl.Response{Status: 404, Fields: slices.Repeat(fieldsOf("a", "1"), 29), Body: "b"}, "HTTP/1.1 404 no\r\n" + strings.Repeat("a: 1\r\n", 29) + "content-length: 1\r\n\r\nb"},
		{impl.Response{Status: 404, Fields: slices.Repeat(fieldsOf("a", "1"), 29)}, "HTTP/1.1 404 no\r\n" + strings.Repeat("a: 1\r\n", 29) + "content-length: 0\r\n\r\n"},
		{impl.Response{Status: 204, Fields: slices.Repeat(fieldsOf("a", "1"), 30)}, "HTTP/1.1 204 ok\r\n" + strings.Repeat("a: 1\r\n", 30) + "\r\n"},
		{impl.Response{Status: 304, Fields: slices.Repeat(fieldsOf("a", "1"), 30)}, "HTTP/1.1 304 ok\r\n" + strings.Repeat("a: 1\r\n", 30) + "\r\n"},
		{impl.Response{Status: 200, Fields: manyFields(30)}, ""},
		{impl.Response{Status: 200, Fields: manyFields(30), Body: "b"}, ""},
		{impl.Response{Status: 500, Fields: manyFields(30)}, ""},
	} {
		if got := impl.ShowResponse(c.r); got != c.want {
			t.Errorf("ShowResponse(%.60q): %.80q, not %.80q", fmt.Sprint(c.r), got, c.want)
		}
	}
	for _, r := range wrongResponses() {
		if got := impl.ShowResponse(r); got != "" {
			t.Fatalf("ShowResponse(%.60q): %.80q", fmt.Sprint(r), got)
		}
	}
}

func TestReadRequestOfShowRequest(t *testing.T) {
	for _, r := range rightRequests() {
		shown := impl.ShowRequest(r)
		for _, behind := range behindTexts {
			got, took, code := impl.ReadRequest(shown + behind)
			if code != impl.RdOk || took != int64(len(shown)) || !sameRequest(got, r) {
				t.Fatalf("%.80q with %.20q behind: %.80q, %d, %d", shown, behind, fmt.Sprint(got), took, code)
			}
		}
	}
}

func TestReadResponseOfShowResponse(t *testing.T) {
	for _, r := range rightResponses() {
		shown := impl.ShowResponse(r)
		for _, behind := range behindTexts {
			got, took, code := impl.ReadResponse(shown + behind)
			if code != impl.RdOk || took != int64(len(shown)) || !sameResponse(got, r) {
				t.Fatalf("%.80q with %.20q behind: %.80q, %d, %d", shown, behind, fmt.Sprint(got), took, code)
			}
		}
	}
}

// codeOfBeginning is the code of a message that is cut: by what is not all there.
func codeOfBeginning(text string, end int) int64 {
	line, head := strings.Index(text, "\r\n")+2, strings.Index(text, "\r\n\r\n")+4
	switch {
	case end < line:
		return impl.RdLine
	case end < head:
		return impl.RdFields
	}
	return impl.RdBody
}

func TestReadRequestOfEachBeginning(t *testing.T) {
	texts := []string{
		"PUT /a HTTP/1.1\r\nTransfer-Encoding: chunked\r\n\r\n" + impl.Chunked([]string{"hello", strings.Repeat("x", 20)}),
		"PUT /a HTTP/1.1\r\na: 1\r\ntransfer-encoding: CHUNKED\r\nb: 2\r\n\r\n" + lastChunk,
		"PUT /a HTTP/1.1\r\na:1\r\nContent-Length: 0005\r\nb: 2\r\n\r\nhello",
	}
	for _, r := range rightRequests() {
		if len(r.Body) < 200 {
			texts = append(texts, impl.ShowRequest(r))
		}
	}
	for _, text := range texts {
		if _, took, code := impl.ReadRequest(text); code != impl.RdOk || took != int64(len(text)) {
			t.Fatalf("%.80q: %d, %d", text, took, code)
		}
		for end := range len(text) {
			got, took, code := impl.ReadRequest(text[:end])
			if code != codeOfBeginning(text, end) || took != 0 || !isZeroRequest(got) {
				t.Fatalf("%.80q cut at %d: %.80q, %d, %d", text, end, fmt.Sprint(got), took, code)
			}
		}
	}
}

func TestReadResponseOfEachBeginning(t *testing.T) {
	texts := []string{
		"HTTP/1.1 200 OK\r\nTransfer-Encoding: chunked\r\n\r\n" + impl.Chunked([]string{"hello", strings.Repeat("x", 20)}),
		"HTTP/1.1 200 fine\r\na: 1\r\ntransfer-encoding: CHUNKED\r\nb: 2\r\n\r\n" + lastChunk,
		"HTTP/1.1 500 -\r\na:1\r\nContent-Length: 0005\r\nb: 2\r\n\r\nhello",
		"HTTP/1.1 200 ok\r\n\r\n",
		"HTTP/1.1 204 ok\r\ncontent-length: 3\r\n\r\n",
		"HTTP/1.1 304 ok\r\ntransfer-encoding: chunked\r\n\r\n",
	}
	for _, r := range rightResponses() {
		if len(r.Body) < 200 {
			texts = append(texts, impl.ShowResponse(r))
		}
	}
	for _, text := range texts {
		if _, took, code := impl.ReadResponse(text); code != impl.RdOk || took != int64(len(text)) {
			t.Fatalf("%.80q: %d, %d", text, took, code)
		}
		for end := range len(text) {
			got, took, code := impl.ReadResponse(text[:end])
			if code != codeOfBeginning(text, end) || took != 0 || !isZeroResponse(got) {
				t.Fatalf("%.80q cut at %d: %.80q, %d, %d", text, end, fmt.Sprint(got), took, code)
			}
		}
	}
}

func TestTheBeginningsOfALongBody(t *testing.T) {
	body := strings.Repeat("b", 4000)
	for _, framed := range []string{"content-length: 4000\r\n\r\n" + body, "transfer-encoding: chunked\r\n\r\n" + impl.Chunked([]string{body[:1], body[1:]})} {
		request, response := "PUT / HTTP/1.1\r\n"+framed, "HTTP/1.1 200 ok\r\n"+framed
		for less := 1; less < 4000; less += 7 {
			if _, took, code := impl.ReadRequest(request[:len(request)-less]); code != impl.RdBody || took != 0 {
				t.Fatalf("%.60q without its last %d: %d, %d", request, less, took, code)
			}
			if _, took, code := impl.ReadResponse(response[:len(response)-less]); code != impl.RdBody || took != 0 {
				t.Fatalf("%.60q without its last %d: %d, %d", response, less, took, code)
			}
		}
		if got, took, code := impl.ReadRequest(request + "behind"); code != impl.RdOk || took != int64(len(request)) || got.Body != body || len(got.Fields) != 0 {
			t.Errorf("%.60q: %d, %d", request, took, code)
		}
		if got, took, code := impl.ReadResponse(response + "behind"); code != impl.RdOk || took != int64(len(response)) || got.Body != body || len(got.Fields) != 0 {
			t.Errorf("%.60q: %d, %d", response, took, code)
		}
	}
}

func TestReadByChunksHoweverTheyAreCut(t *testing.T) {
	for _, parts := range mixedParts(100) {
		body, chunks := strings.Join(parts, ""), impl.Chunked(parts)
		text := " /a HTTP/1.1\r\nA: 1\r\nTransfer-encoding: Chunked\r\nb: 2\r\n\r\n" + chunks
		got, took, code := impl.ReadRequest("POST" + text + "0\r\n")
		if code != impl.RdOk || took != int64(len("POST"+text)) || !sameRequest(got, impl.Request{Method: "POST", Target: "/a", Fields: fieldsOf("A", "1", "b", "2"), Body: body}) {
			t.Fatalf("%q: %.80q, %d, %d", text, fmt.Sprint(got), took, code)
		}
		text = "HTTP/1.1 404 Found\r\ntransfer-encoding:chunked\r\nb: 2\r\n\r\n" + chunks
		answer, took, code := impl.ReadResponse(text + "0\r\n")
		if code != impl.RdOk || took != int64(len(text)) || !sameResponse(answer, impl.Response{Status: 404, Fields: fieldsOf("b", "2"), Body: body}) {
			t.Fatalf("%q: %.80q, %d, %d", text, fmt.Sprint(answer), took, code)
		}
	}
}

func TestOneMessageBehindTheOther(t *testing.T) {
	requests, responses := rightRequests(), rightResponses()
	source := rand.New(rand.NewSource(6))
	source.Shuffle(len(requests), func(i, j int) { requests[i], requests[j] = requests[j], requests[i] })
	source.Shuffle(len(responses), func(i, j int) { responses[i], responses[j] = responses[j], responses[i] })
	stream := ""
	for i, r := range requests {
		// Every second one comes by chunks, where there is room for the Field that tells so.
		if i%2 == 0 || len(r.Fields) == impl.MaxFields {
			stream += impl.ShowRequest(r)
			continue
		}
		stream += r.Method + " " + r.Target + " HTTP/1.1\r\n" + impl.ShowFields(r.Fields) + "transfer-encoding: chunked\r\n\r\n" + impl.Chunked([]string{r.Body})
	}
	for i, r := range requests {
		got, took, code := impl.ReadRequest(stream)
		if code != impl.RdOk || !sameRequest(got, r) {
			t.Fatalf("request %d: %.80q, %d, %d, not %.80q", i, fmt.Sprint(got), took, code, fmt.Sprint(r))
		}
		stream = stream[took:]
	}
	answers := ""
	for _, r := range responses {
		answers += impl.ShowResponse(r)
	}
	for i, r := range responses {
		got, took, code := impl.ReadResponse(answers)
		if code != impl.RdOk || !sameResponse(got, r) {
			t.Fatalf("response %d: %.80q, %d, %d, not %.80q", i, fmt.Sprint(got), took, code, fmt.Sprint(r))
		}
		answers = answers[took:]
	}
	if stream != "" || answers != "" {
		t.Fatalf("%.40q and %.40q are left", stream, answers)
	}
}

func TestReadRequest(t *testing.T) {
	for _, c := range []struct {
		text string
		want impl.Request
		took int64
	}{
		{"GET / HTTP/1.1\r\n\r\n", impl.Request{Method: "GET", Target: "/"}, 18},
		{"GET / HTTP/1.1\r\n\r\nbytes behind it", impl.Request{Method: "GET", Target: "/"}, 18},
		{"GET HTTP/1.1 HTTP/1.1\r\n\r\n", impl.Request{Method: "GET", Target: "HTTP/1.1"}, 25},
		{"GET / HTTP/1.1\r\na:1\r\nA: \t2 \r\n\r\nx", impl.Request{Method: "GET", Target: "/", Fields: fieldsOf("a", "1", "A", "2")}, 31},
		{"GET / HTTP/1.1\r\ncontent-length: 0\r\n\r\nx", impl.Request{Method: "GET", Target: "/"}, 37},
		{"GET / HTTP/1.1\r\nCONTENT-LENGTH:\t003 \r\n\r\nabcd", impl.Request{Method: "GET", Target: "/", Body: "abc"}, 43},
		{"PUT /a HTTP/1.1\r\nh: 1\r\nContent-Length: 2\r\ni: 2\r\n\r\n\r\n\r\n", impl.Request{Method: "PUT", Target: "/a", Fields: fieldsOf("h", "1", "i", "2"), Body: "\r\n"}, 52},
		{"PUT /a HTTP/1.1\r\ntransfer-encoding: chunked\r\n\r\n0\r\n\r\n0\r\n\r\n", impl.Request{Method: "PUT", Target: "/a"}, 52},
		{"PUT /a HTTP/1.1\r\nte: x\r\ntransfer-encoding: chunked\r\n\r\n2\r\nab\r\n01\r\nc\r\n0\r\n\r\nxx", impl.Request{Method: "PUT", Target: "/a", Fields: fieldsOf("te", "x"), Body: "abc"}, 73},
		{"GET / HTTP/1.1\r\n" + strings.Repeat("a: 1\r\n", 29) + "content-length: 1\r\n\r\nbb", impl.Request{Method: "GET", Target: "/", Fields: slices.Repeat(fieldsOf("a", "1"), 29), Body: "b"}, 212},
		{strings.Repeat("M", 64) + " " + strings.Repeat("t", 200) + " HTTP/1.1\r\n\r\n", impl.Request{Method: strings.Repeat("M", 64), Target: strings.Repeat("t", 200)}, 278},
	} {
		got, took, code := impl.ReadRequest(c.text)
		if code != impl.RdOk || took != c.took || !sameRequest(got, c.want) {
			t.Errorf("ReadRequest(%.60q): %.80q, %d, %d, not %.80q, %d", c.text, fmt.Sprint(got), took, code, fmt.Sprint(c.want), c.took)
		}
	}
}

func TestReadResponse(t *testing.T) {
	for _, c := range []struct {
		text string
		want impl.Response
		took int64
	}{
		{"HTTP/1.1 200 ok\r\n\r\n", impl.Response{Status: 200}, 19},
		{"HTTP/1.1 200 OK\r\n\r\nbytes behind it", impl.Response{Status: 200}, 19},
		{"HTTP/1.1 599 !#$%&'*+-.^_|~`\r\n\r\n", impl.Response{Status: 599}, 32},
		{"HTTP/1.1 200 404\r\n\r\n", impl.Response{Status: 200}, 20},
		{"HTTP/1.1 404 " + strings.Repeat("w", 64) + "\r\n\r\n", impl.Response{Status: 404}, 81},
		{"HTTP/1.1 399 no\r\na:1\r\ncontent-length: 3\r\nA: 2\r\n\r\nabcd", impl.Response{Status: 399, Fields: fieldsOf("a", "1", "A", "2"), Body: "abc"}, 52},
		{"HTTP/1.1 400 ok\r\ncontent-length: 0\r\n\r\nabcd", impl.Response{Status: 400}, 38},
		{"HTTP/1.1 500 x\r\ntransfer-encoding: chunked\r\n\r\n1\r\na\r\n0\r\n\r\nb", impl.Response{Status: 500, Body: "a"}, 57},
		{"HTTP/1.1 200 ok\r\n" + strings.Repeat("a: 1\r\n", 30) + "\r\nx", impl.Response{Status: 200, Fields: slices.Repeat(fieldsOf("a", "1"), 30)}, 199},
	} {
		got, took, code := impl.ReadResponse(c.text)
		if code != impl.RdOk || took != c.took || !sameResponse(got, c.want) {
			t.Errorf("ReadResponse(%.60q): %.80q, %d, %d, not %.80q, %d", c.text, fmt.Sprint(got), took, code, fmt.Sprint(c.want), c.took)
		}
	}
}

func TestReadResponseWithoutABody(t *testing.T) {
	lists := append(framedLists(), nil, fieldsOf("a", "1"), fieldsOf("content-length", "3"), fieldsOf("content-length", "4001"), fieldsOf("content-length", "3", "content-length", "3"), fieldsOf("a", "1", "Transfer-Encoding", "chunked", "b", "2"), manyFields(30))
	for _, status := range []int64{204, 304} {
		for _, list := range lists {
			text := fmt.Sprintf("HTTP/1.1 %d ok\r\n%s\r\n", status, impl.ShowFields(list))
			want, taken, told := impl.Response{Status: status, Fields: plainWithout(list, "content-length", "transfer-encoding")}, int64(len(text)), int64(impl.RdOk)
			if kind, _ := plainFraming(list); kind == impl.FmBad {
				want, taken, told = impl.Response{}, 0, impl.RdFraming
			}
			for _, behind := range append([]string{"ab", "abc", "3\r\nabc\r\n" + lastChunk}, behindTexts...) {
				got, took, code := impl.ReadResponse(text + behind)
				if code != told || took != taken || !sameResponse(got, want) {
					t.Errorf("%.80q with %.20q behind: %.80q, %d, %d, not %d, %d", text, behind, fmt.Sprint(got), took, code, taken, told)
				}
			}
		}
	}
	// Beside these two, each reads what the Fields say.
	for status := int64(200); status <= 599; status++ {
		got, _, code := impl.ReadResponse(fmt.Sprintf("HTTP/1.1 %d ok\r\ncontent-length: 3\r\n\r\nabc", status))
		want := "abc"
		if status == 204 || status == 304 {
			want = ""
		}
		if code != impl.RdOk || got.Status != status || got.Body != want {
			t.Errorf("Status %d: %.80q, %d", status, fmt.Sprint(got), code)
		}
	}
}

// Status 204 and 304 take away the reading of a Body, and not what is told of Fields that are FmBad.
func TestFramingOfResponsesWithoutABody(t *testing.T) {
	bad := []string{
		"content-length: 4001\r\n", "content-length: \r\n", "content-length:\r\n", "content-length: x\r\n", "content-length: -1\r\n", "content-length: 0000000000000001\r\n", "content-length: 3\r\ncontent-length: 3\r\n", "a: 1\r\nContent-Length: 0, 0\r\nb: 2\r\n",
		"Transfer-Encoding: gzip\r\n", "transfer-encoding:\r\n", "transfer-encoding: gzip, chunked\r\n", "transfer-encoding: chunked\r\nTRANSFER-ENCODING: chunked\r\n",
		"content-length: 3\r\ntransfer-encoding: chunked\r\n", "Transfer-Encoding: chunked\r\nContent-Length: 0\r\n", strings.Repeat("a: 1\r\n", 29) + "content-length: 4001\r\n",
	}
	right := []string{"", "a: 1\r\n", "content-length: 0\r\n", "content-length: 3\r\n", "Content-Length: 4000\r\n", "a: 1\r\nCONTENT-LENGTH: 0003\r\n", "transfer-encoding: chunked\r\n", "Transfer-Encoding: Chunked\r\nb: 2\r\n", strings.Repeat("a: 1\r\n", 29) + "content-length: 4000\r\n"}
	behinds := []string{"", "a", "ab", "abc", "abcd", "g\r\n", "3\r\nab", lastChunk, "HTTP/1.1 200 ok\r\n\r\n", strings.Repeat("b", 4001)}
	for _, line := range []string{"HTTP/1.1 204 ok\r\n", "HTTP/1.1 304 ok\r\n", "HTTP/1.1 304 -\r\n"} {
		for _, behind := range behinds {
			for _, fields := range bad {
				if got, took, code := impl.ReadResponse(line + fields + "\r\n" + behind); code != impl.RdFraming || took != 0 || !isZeroResponse(got) {
					t.Errorf("%.80q with %.20q behind: %.80q, %d, %d", line+fields, behind, fmt.Sprint(got), took, code)
				}
			}
			for _, fields := range right {
				text := line + fields + "\r\n"
				if got, took, code := impl.ReadResponse(text + behind); code != impl.RdOk || took != int64(len(text)) || got.Body != "" {
					t.Errorf("%.80q with %.20q behind: %.80q, %d, %d", text, behind, fmt.Sprint(got), took, code)
				}
			}
		}
		// What comes ahead of the framing is still told first.
		for _, fields := range bad {
			if _, took, code := impl.ReadResponse(line + fields); code != impl.RdFields || took != 0 {
				t.Errorf("%.80q without an empty line: %d, %d", line+fields, took, code)
			}
			if _, took, code := impl.ReadResponse("X" + line + fields + "\r\n"); code != impl.RdLine || took != 0 {
				t.Errorf("%.80q behind a byte: %d, %d", line+fields, took, code)
			}
		}
	}
}

// wrongRequestLines are no first lines of a Request.
func wrongRequestLines() []string {
	lines := []string{
		"", " ", "  ", "   ", "GET", "GET /", "GET HTTP/1.1", "/ HTTP/1.1", "GET/ HTTP/1.1", "GET /HTTP/1.1", "GET / a HTTP/1.1", "GET / HTTP/1.1 a", "GET / HTTP/1.1 ", " GET / HTTP/1.1", "GET  / HTTP/1.1", "GET /  HTTP/1.1", "GET  HTTP/1.1", " / HTTP/1.1", "GET / ",
		"GET\t/\tHTTP/1.1", "GET /\tHTTP/1.1", "GET / HTTP/1.0", "GET / HTTP/1.2", "GET / HTTP/2", "GET / HTTP/1.10", "GET / HTTP/1.", "GET / http/1.1", "GET / HTTP/01.1", "GET / HTTP /1.1", "GET / XHTTP/1.1", "GET / HTTP/1.1x", "GET / HTTP/1.1\r", "GET / HTTP/1.1\n", "\rGET / HTTP/1.1", "\nGET / HTTP/1.1", "GET / HTTP/1\r.1",
		"HTTP/1.1 200 ok", "HTTP/1.1 GET /", "/ GET HTTP/1.1", "\r\nGET / HTTP/1.1", strings.Repeat(" ", 100000), strings.Repeat("G", 100000), strings.Repeat("G ", 50000),
	}
	for _, r := range wrongRequests() {
		if impl.FieldsOk(r.Fields) && len(r.Fields) == 1 && r.Fields[0].Name == "h" && len(r.Body) <= 4000 {
			lines = append(lines, r.Method+" "+r.Target+" HTTP/1.1")
		}
	}
	return lines
}

// wrongResponseLines are no first lines of a Response.
func wrongResponseLines() []string {
	lines := []string{
		"", " ", "  ", "HTTP/1.1", "HTTP/1.1 ", "HTTP/1.1 200", "HTTP/1.1 200 ", "HTTP/1.1  200 ok", "HTTP/1.1 200  ok", "HTTP/1.1 200 ok ", " HTTP/1.1 200 ok", "HTTP/1.1 200 ok no", "HTTP/1.1 200 not found", "HTTP/1.1 ok", "HTTP/1.1 ok 200", "200 ok", "200 ok HTTP/1.1", "HTTP/1.1\t200\tok", "HTTP/1.1 200\tok",
		"HTTP/1.0 200 ok", "HTTP/1.2 200 ok", "HTTP/2 200 ok", "http/1.1 200 ok", "HTTP/1.10 200 ok", "HTTP/1. 200 ok", "XHTTP/1.1 200 ok", "HTTP/1.1 200 ok\r", "HTTP/1.1 200 ok\n", "\rHTTP/1.1 200 ok", "\nHTTP/1.1 200 ok", "GET / HTTP/1.1", "\r\nHTTP/1.1 200 ok", strings.Repeat(" ", 100000), "HTTP/1.1 200 " + strings.Repeat("w", 100000), "HTTP/1.1 " + strings.Repeat("2", 100000) + " ok",
	}
	for _, status := range append([]string{"", "2", "20", "99", "100", "199", "600", "700", "999", "000", "020", "0200", "00200", "2000", "2004", "20000", "-200", "+200", "-20", "+20", "2e2", "2a0", "a00", "0c8", "20a", "abc", "0x2", "2.0", "200.", "20 ", "2_0", "200,", "\"20", "4294967496"}, oddTexts...) {
		lines = append(lines, "HTTP/1.1 "+status+" ok")
	}
	for _, word := range wrongNames() {
		// A token with a line end behind it is a right word, and the line ends there.
		if !strings.HasSuffix(word, "a\r\n") {
			lines = append(lines, "HTTP/1.1 200 "+word)
		}
	}
	return lines
}

// makesLineEnd: a line with a byte 13 too many is right where a byte 10 comes behind it.
func makesLineEnd(line, behind string) bool {
	return strings.HasSuffix(line, "\r") && strings.HasPrefix(behind, "\n")
}

func TestReadOfWrongFirstLines(t *testing.T) {
	behinds := []string{"\r\n\r\n", "\r\na: 1\r\n\r\n", "\r\ncontent-length: 1\r\n\r\nb", "\r\n", "", "\r", "\n", "\n\n", "\n\r\n\r\n", "\r\r\n\r\n", "\r\n: \r\n\r\n", "\r\ncontent-length: x\r\n\r\n"}
	for _, line := range wrongRequestLines() {
		for _, behind := range behinds {
			if makesLineEnd(line, behind) {
				continue
			}
			if got, took, code := impl.ReadRequest(line + behind); code != impl.RdLine || took != 0 || !isZeroRequest(got) {
				t.Errorf("ReadRequest(%.60q): %.80q, %d, %d", line+behind, fmt.Sprint(got), took, code)
			}
		}
	}
	for _, line := range wrongResponseLines() {
		for _, behind := range behinds {
			if makesLineEnd(line, behind) {
				continue
			}
			if got, took, code := impl.ReadResponse(line + behind); code != impl.RdLine || took != 0 || !isZeroResponse(got) {
				t.Errorf("ReadResponse(%.60q): %.80q, %d, %d", line+behind, fmt.Sprint(got), took, code)
			}
		}
	}
	for _, end := range []string{"", "\r", "\n", "\n\n", "\r\r", "\n\r", "\n\r\n", "\r\r\n", " \r\n", "\r \n", "\na: 1\r\n\r\n"} {
		if _, took, code := impl.ReadRequest("GET / HTTP/1.1" + end); code != impl.RdLine || took != 0 {
			t.Errorf("a first line that ends by %q: %d, %d", end, took, code)
		}
		if _, took, code := impl.ReadResponse("HTTP/1.1 200 ok" + end); code != impl.RdLine || took != 0 {
			t.Errorf("a first line that ends by %q: %d, %d", end, took, code)
		}
	}
}

// Each code, and of two that hold the one named first.
func TestReadCodes(t *testing.T) {
	many := strings.Repeat("a: 1\r\n", 31)
	big := strings.Repeat("b", 4000)
	for behind, want := range map[string]int64{
		"":                                      impl.RdFields,
		"\r":                                    impl.RdFields,
		"\n\n":                                  impl.RdFields,
		"a: 1":                                  impl.RdFields,
		"a: 1\r\n":                              impl.RdFields,
		"a : 1\r\n\r\n":                         impl.RdFields,
		" a: 1\r\n\r\n":                         impl.RdFields,
		"a: 1\n\r\n\r\n":                        impl.RdFields,
		"a\r\n\r\n":                             impl.RdFields,
		"a: \x00\r\n\r\n":                       impl.RdFields,
		many + "\r\n":                           impl.RdFields,
		many + "content-length: x\r\n\r\n":      impl.RdFields,
		many[6:] + "content-length: 1\r\n\r\nb": impl.RdFields,
		"content-length: x\r\n":                 impl.RdFields,
		"content-length: x\r\na : 1\r\n\r\n":    impl.RdFields,
		"content-length: 9\r\na\r\n\r\nb":       impl.RdFields,
		"content-length : 1\r\n\r\nb":           impl.RdFields,
		"transfer-encoding: chunked\r\n: \r\n\r\nx":                                       impl.RdFields,
		"content-length: 1\r\n 0\r\n\r\n":                                                 impl.RdFields,
		"content-length: x\r\n\r\n":                                                       impl.RdFraming,
		"content-length:\r\n\r\n":                                                         impl.RdFraming,
		"content-length: -1\r\n\r\nb":                                                     impl.RdFraming,
		"content-length: +1\r\n\r\nb":                                                     impl.RdFraming,
		"content-length: 4001\r\n\r\n":                                                    impl.RdFraming,
		"content-length: 4001\r\n\r\n" + big + "b":                                        impl.RdFraming,
		"content-length: 1\r\ncontent-length: 1\r\n\r\nb":                                 impl.RdFraming,
		"content-length: 1, 1\r\n\r\nb":                                                   impl.RdFraming,
		"content-length: 5\r\ntransfer-encoding: chunked\r\n\r\n" + lastChunk:             impl.RdFraming,
		"content-length: 5\r\ntransfer-encoding: chunked\r\n\r\n":                         impl.RdFraming,
		"transfer-encoding: gzip\r\n\r\nb":                                                impl.RdFraming,
		"transfer-encoding:\r\n\r\nb":                                                     impl.RdFraming,
		"transfer-encoding: chunked\r\nTransfer-Encoding: chunked\r\n\r\n" + lastChunk:    impl.RdFraming,
		"transfer-encoding: gzip, chunked\r\n\r\nx":                                       impl.RdFraming,
		"transfer-encoding: x\r\ncontent-length: 9\r\n\r\nb":                              impl.RdFraming,
		"content-length: 1\r\n\r\n":                                                       impl.RdBody,
		"content-length: 3\r\n\r\nab":                                                     impl.RdBody,
		"content-length: 4000\r\n\r\n" + big[1:]:                                          impl.RdBody,
		"transfer-encoding: chunked\r\n\r\n":                                              impl.RdBody,
		"transfer-encoding: chunked\r\n\r\n0\r\n":                                         impl.RdBody,
		"transfer-encoding: chunked\r\n\r\ng\r\n\r\n":                                     impl.RdBody,
		"transfer-encoding: chunked\r\n\r\n1\r\nab\r\n" + lastChunk:                       impl.RdBody,
		"transfer-encoding: chunked\r\n\r\n1\na\n0\n\n":                                   impl.RdBody,
		"transfer-encoding: chunked\r\n\r\n\r\n" + lastChunk:                              impl.RdBody,
		"transfer-encoding: chunked\r\n\r\nfa1\r\n" + big + "b\r\n" + lastChunk:           impl.RdBody,
		"transfer-encoding: chunked\r\n\r\nfa0\r\n" + big + "\r\n1\r\nb\r\n" + lastChunk:  impl.RdBody,
		"transfer-encoding: chunked\r\n\r\nfa0\r\n" + big + "\r\n" + lastChunk + "behind": impl.RdOk,
		"content-length: 4000\r\n\r\n" + big + "behind":                                   impl.RdOk,
		"content-length: 000\r\n\r\n":                                                     impl.RdOk,
		"\r\n":                                                                            impl.RdOk,
		"\r\n\r\n: x":                                                                     impl.RdOk,
		many[6:] + "\r\nb":                                                                impl.RdOk,
	} {
		request, took, code := impl.ReadRequest("GET / HTTP/1.1\r\n" + behind)
		if code != want || code != impl.RdOk && (took != 0 || !isZeroRequest(request)) {
			t.Errorf("a Request with %.80q: %.80q, %d, %d, not %d", behind, fmt.Sprint(request), took, code, want)
		}
		response, took, code := impl.ReadResponse("HTTP/1.1 200 ok\r\n" + behind)
		if code != want || code != impl.RdOk && (took != 0 || !isZeroResponse(response)) {
			t.Errorf("a Response with %.80q: %.80q, %d, %d, not %d", behind, fmt.Sprint(response), took, code, want)
		}
		// Where the first line is wrong, too, that comes first.
		if _, _, code := impl.ReadRequest("get / HTTP/1.1\r\n" + behind); code != impl.RdLine {
			t.Errorf("a wrong line with %.80q: %d", behind, code)
		}
		if _, _, code := impl.ReadResponse("HTTP/1.1 199 ok\r\n" + behind); code != impl.RdLine {
			t.Errorf("a wrong line with %.80q: %d", behind, code)
		}
		// One whose Body is not read has no code of it; the others it has.
		if want == impl.RdBody {
			want = impl.RdOk
		}
		response, took, code = impl.ReadResponse("HTTP/1.1 304 ok\r\n" + behind)
		if code != want || response.Body != "" || code != impl.RdOk && (took != 0 || !isZeroResponse(response)) {
			t.Errorf("304 with %.80q: %.80q, %d, %d, not %d", behind, fmt.Sprint(response), took, code, want)
		}
	}
}

// messageTexts are texts near messages: with one byte that is another, and of pieces in any order; the same in each run.
func messageTexts() []string {
	var texts []string
	for _, behind := range []string{"\r\n", "a: 1\r\n\r\nx", "content-length: 3\r\n\r\nabc", "content-length: 3\r\na: b\r\n\r\nabcd", "transfer-encoding: chunked\r\n\r\n2\r\nab\r\n" + lastChunk} {
		for _, line := range []string{"GET /a HTTP/1.1\r\n", "HTTP/1.1 200 ok\r\n", "HTTP/1.1 204 ok\r\n", "HTTP/1.1 304 ok\r\n", "HTTP/1.1 404 no\r\n"} {
			texts = append(texts, nearTexts(line+behind)...)
		}
	}
	source := rand.New(rand.NewSource(7))
	lines := []string{"GET / HTTP/1.1\r\n", "PUT /x HTTP/1.1\r\n", "HTTP/1.1 200 ok\r\n", "HTTP/1.1 204 -\r\n", "HTTP/1.1 304 ok\r\n", "HTTP/1.1 500 no\r\n", "GET / HTTP/1.0\r\n", "HTTP/1.1 600 no\r\n", "", "\r\n"}
	pieces := []string{"a: 1\r\n", "B:\r\n", "content-length: 3\r\n", "Content-Length: 0\r\n", "content-length: 5\r\n", "content-length: 4001\r\n", "content-length: 0x\r\n", "transfer-encoding: chunked\r\n", "Transfer-Encoding: CHUNKED\r\n", "transfer-encoding: gzip\r\n", "no field\r\n", strings.Repeat("c: 3\r\n", 15)}
	bodies := []string{"", "abc", "abcdef", lastChunk, "3\r\nabc\r\n" + lastChunk, "3\r\nabc\r\n", "g", "0\r\n", "\r\n"}
	for range 60000 {
		text := lines[source.Intn(len(lines))]
		for range source.Intn(4) {
			text += pieces[source.Intn(len(pieces))]
		}
		if source.Intn(10) > 0 {
			text += "\r\n"
		}
		texts = append(texts, text+bodies[source.Intn(len(bodies))]+bodies[source.Intn(len(bodies))])
	}
	return texts
}

func TestReadOfManyTexts(t *testing.T) {
	var requests, responses [5]int
	for _, text := range messageTexts() {
		want, taken, told := plainReadRequest(text)
		got, took, code := impl.ReadRequest(text)
		if code != told || took != taken || !sameRequest(got, want) {
			t.Fatalf("ReadRequest(%q): %q, %d, %d, not %q, %d, %d", text, fmt.Sprint(got), took, code, fmt.Sprint(want), taken, told)
		}
		requests[code]++
		if code == impl.RdOk && !impl.RequestOk(got) {
			t.Fatalf("ReadRequest(%q): %q", text, fmt.Sprint(got))
		}
		wanted, taken, told := plainReadResponse(text)
		read, took, code := impl.ReadResponse(text)
		if code != told || took != taken || !sameResponse(read, wanted) {
			t.Fatalf("ReadResponse(%q): %q, %d, %d, not %q, %d, %d", text, fmt.Sprint(read), took, code, fmt.Sprint(wanted), taken, told)
		}
		responses[code]++
		if code == impl.RdOk && !impl.ResponseOk(read) {
			t.Fatalf("ReadResponse(%q): %q", text, fmt.Sprint(read))
		}
	}
	for code := range requests {
		if requests[code] < 300 || responses[code] < 300 {
			t.Errorf("code %d came %d and %d times only", code, requests[code], responses[code])
		}
	}
}

// What is read takes just those bytes: they alone are read alike, and what stands behind them changes nothing.
func TestWhatIsReadEndsWhereItSays(t *testing.T) {
	for i, text := range messageTexts() {
		if i%10 > 0 {
			continue
		}
		if got, took, code := impl.ReadRequest(text); code == impl.RdOk {
			for _, behind := range behindTexts {
				again, too, code := impl.ReadRequest(text[:took] + behind)
				if code != impl.RdOk || too != took || !sameRequest(again, got) {
					t.Fatalf("%q with %q behind: %q, %d, %d", text[:took], behind, fmt.Sprint(again), too, code)
				}
			}
			if _, _, code := impl.ReadRequest(text[:took-1]); code == impl.RdOk {
				t.Fatalf("%q is read without its last byte", text[:took])
			}
		}
		if got, took, code := impl.ReadResponse(text); code == impl.RdOk {
			for _, behind := range behindTexts {
				again, too, code := impl.ReadResponse(text[:took] + behind)
				if code != impl.RdOk || too != took || !sameResponse(again, got) {
					t.Fatalf("%q with %q behind: %q, %d, %d", text[:took], behind, fmt.Sprint(again), too, code)
				}
			}
			if _, _, code := impl.ReadResponse(text[:took-1]); code == impl.RdOk {
				t.Fatalf("%q is read without its last byte", text[:took])
			}
		}
	}
}

func TestShownMessagesAreNewMemory(t *testing.T) {
	for _, given := range append(rightRequests(), wrongRequests()...) {
		r := impl.Request{Method: strings.Clone(given.Method), Target: strings.Clone(given.Target), Fields: roomy(given.Fields), Body: strings.Clone(given.Body)}
		before := deepFields(r.Fields[:cap(r.Fields)])
		impl.RequestOk(r)
		impl.Framing(r.Fields)
		shown := impl.ShowRequest(r)
		for _, text := range append(textsIn(r.Fields), r.Method, r.Target, r.Body) {
			if sharesMemory(shown, text) {
				t.Fatalf("ShowRequest(%.80q) shares memory with it", fmt.Sprint(r))
			}
		}
		if !sameRequest(r, given) || !slices.Equal(r.Fields[:cap(r.Fields)], before) {
			t.Fatalf("%.80q became %.80q", fmt.Sprint(given), fmt.Sprint(r))
		}
	}
	for _, given := range append(rightResponses(), wrongResponses()...) {
		r := impl.Response{Status: given.Status, Fields: roomy(given.Fields), Body: strings.Clone(given.Body)}
		before := deepFields(r.Fields[:cap(r.Fields)])
		impl.ResponseOk(r)
		shown := impl.ShowResponse(r)
		for _, text := range append(textsIn(r.Fields), r.Body) {
			if sharesMemory(shown, text) {
				t.Fatalf("ShowResponse(%.80q) shares memory with it", fmt.Sprint(r))
			}
		}
		if !sameResponse(r, given) || !slices.Equal(r.Fields[:cap(r.Fields)], before) {
			t.Fatalf("%.80q became %.80q", fmt.Sprint(given), fmt.Sprint(r))
		}
	}
}

func TestReadMessagesAreNewMemory(t *testing.T) {
	behinds := []string{"abc: def\r\ncontent-length: 5\r\ng: h\r\n\r\nhello", "abc: def\r\ntransfer-encoding: chunked\r\n\r\n5\r\nhello\r\n" + lastChunk, strings.Repeat("abc: def\r\n", 30) + "\r\n"}
	for _, behind := range behinds {
		text := strings.Clone("METHOD /target HTTP/1.1\r\n" + behind + "behind")
		before := strings.Clone(text)
		first, _, code := impl.ReadRequest(text)
		second, _, _ := impl.ReadRequest(text)
		if code != impl.RdOk || len(first.Fields) == 0 || textsShare(first.Fields, text) || sharesMemory(first.Method, text) || sharesMemory(first.Target, text) || sharesMemory(first.Body, text) {
			t.Errorf("ReadRequest(%.60q) shares memory with it", text)
		}
		if listsShare(first.Fields, second.Fields) || cap(first.Fields) != len(first.Fields) {
			t.Errorf("two answers of ReadRequest(%.60q) share memory, or have room behind them", text)
		}
		for i := range first.Fields {
			first.Fields[i] = impl.Field{}
		}
		if third, _, _ := impl.ReadRequest(text); !sameRequest(third, second) || text != before {
			t.Errorf("ReadRequest(%.60q) hangs on what became of an earlier answer", text)
		}

		text = strings.Clone("HTTP/1.1 200 word\r\n" + behind + "behind")
		before = strings.Clone(text)
		one, _, code := impl.ReadResponse(text)
		two, _, _ := impl.ReadResponse(text)
		if code != impl.RdOk || len(one.Fields) == 0 || textsShare(one.Fields, text) || sharesMemory(one.Body, text) {
			t.Errorf("ReadResponse(%.60q) shares memory with it", text)
		}
		if listsShare(one.Fields, two.Fields) || cap(one.Fields) != len(one.Fields) {
			t.Errorf("two answers of ReadResponse(%.60q) share memory, or have room behind them", text)
		}
		for i := range one.Fields {
			one.Fields[i] = impl.Field{}
		}
		if three, _, _ := impl.ReadResponse(text); !sameResponse(three, two) || text != before {
			t.Errorf("ReadResponse(%.60q) hangs on what became of an earlier answer", text)
		}
	}
}

// Each function answers, the same twice, whatever it is given.
func TestMessageFunctionsAnswerAtEveryArgument(t *testing.T) {
	texts := append(append(hugeTexts(), oddTexts...), mixedTexts(1000, 60)...)
	texts = append(texts, textsOf("G / \r\n", 5)...)
	for _, s := range []string{"GET / HTTP/1.1\r\n", "HTTP/1.1 200 ok\r\n", "a: 1\r\n", "\r\n", " ", ":", "content-length: 1\r\n"} {
		huge := strings.Repeat(s, 50000)
		texts = append(texts, huge, "GET / HTTP/1.1\r\n"+huge, "HTTP/1.1 200 ok\r\n"+huge, "GET / HTTP/1.1\r\ntransfer-encoding: chunked\r\n\r\n"+huge, "GET / HTTP/1.1\r\ncontent-length: 4000\r\n\r\n"+huge)
	}
	for _, text := range texts {
		request, took, code := impl.ReadRequest(text)
		again, too, still := impl.ReadRequest(text)
		if !sameRequest(request, again) || took != too || code != still || code < impl.RdOk || code > impl.RdBody || (code == impl.RdOk) != impl.RequestOk(request) {
			t.Fatalf("ReadRequest(%.60q): %.60q, %d, %d", text, fmt.Sprint(request), took, code)
		}
		response, took, code := impl.ReadResponse(text)
		answer, too, still := impl.ReadResponse(text)
		if !sameResponse(response, answer) || took != too || code != still || code < impl.RdOk || code > impl.RdBody || (code == impl.RdOk) != impl.ResponseOk(response) {
			t.Fatalf("ReadResponse(%.60q): %.60q, %d, %d", text, fmt.Sprint(response), took, code)
		}
		list := fieldsOf(text, text, "content-length", text)
		impl.Framing(list)
		if shown := impl.ShowRequest(impl.Request{Method: text, Target: text, Fields: list, Body: text}); shown != "" {
			t.Fatalf("ShowRequest with %.60q: %.60q", text, shown)
		}
		if shown := impl.ShowResponse(impl.Response{Status: int64(len(text)), Fields: list, Body: text}); shown != "" {
			t.Fatalf("ShowResponse with %.60q: %.60q", text, shown)
		}
	}
}
